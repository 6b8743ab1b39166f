/-
  cedillaref13's number: a place in the maker's row; the row is as it was, or has one state more. Entries that are read, for the document's Build: their values, and the least of them. Plain words for the document's state: the entries that go on with one byte, the bytes of the arcs so far, and the bound on new states. What stands while the document's state makes a state: the maker's row, the state's box, its arcs; and what a call of it leaves. The document's state: what one call leaves, under what the calls that it makes leave. The document's state, told: of good entries it answers a place in a row that has at most a state for each byte behind the depth more, and one.
-/
import Derived.Test.YtjiilmiikejnhaaDoorP13
import Derived.Test.YtjiilmiikejnhaaDoorP28
import Derived.Test.YtjiilmiikejnhaaDoorP12
import Derived.Deep.RegionLaw
import Derived.Test.YtjiilmiikejnhaaDoorP18
set_option linter.unusedVariables false
set_option linter.unusedSimpArgs false
namespace Go.Proofs.YtjiilmiikejnhaaDoor
open Go.RowKit Go.Shelf Said

def MkrB (w : World) (p : Nat) (v : Value) : Prop := w.heap[p]? = some (.cells #[v] 100 (0, 0))
theorem MkrB.lt {w : World} {p : Nat} {v : Value} (h : MkrB w p v) : p < w.heap.size := (Array.getElem?_eq_some_iff.1 h).1
theorem MkrB.at0 {w : World} {p : Nat} {v : Value} (h : MkrB w p v) : w.cell? ⟨p, 0, none⟩ = some v := by rw [cell_of_row w p 0 _ _ _ h]; rfl
theorem MkrB.free {w : World} {p : Nat} {v : Value} (h : MkrB w p v) (o : Nat) : w.frozen? ⟨p, o, none⟩ = false := by
  unfold MkrB at h
  simp [World.frozen?, h]
theorem MkrB.kp {w w' : World} {M : Nat → Prop} {p : Nat} {v : Value} (h : MkrB w p v) (hk : Kp M w w') (hm : ¬ M p) : MkrB w' p v := (hk.block p h.lt hm).trans h
theorem MkrB.below {w w' : World} {p : Nat} {v : Value} (h : MkrB w p v) (hb : Below w.heap.size w w') : MkrB w' p v := (hb.block p h.lt).trans h
theorem mkr_apart {w : World} {base p : Nat} {v u : Value} {xs : List (Value × DSt)} (h : MkrB w p u) (hr : SRow w base v xs) : v.ownBlock ≠ some p := fun e => by
  obtain ⟨_, cs, fz, hc⟩ := owns_cells hr p e
  have h' : w.heap[p]? = some _ := h
  rw [h'] at hc
  cases hc
theorem mkr_apartA {w : World} {base p : Nat} {v u : Value} {xs : List DArc} (h : MkrB w p u) (hr : ARow w base v xs) : v.ownBlock ≠ some p := fun e => by
  obtain ⟨_, cs, fz, hc⟩ := owns_cells hr p e
  have h' : w.heap[p]? = some _ := h
  rw [h'] at hc
  cases hc
theorem rowsM_next {w1 w5 : World} {base q : Nat} {xs : List (Value × DSt)} {y : Value × DSt} {v v5 v0 : Value} (hs : MkrB w1 q v) (hrow : RowsI w1 base v xs) (hy : ARow w1 base y.1 y.2.arcs)
    (hA : Appd w1 base 64 v (xs.length + 1) (stsC xs ++ stC y) q 0 v0 v5 w5) :
    MkrB (w5.setCell ⟨q, 0, none⟩ v5) q v5 ∧ RowsI (w5.setCell ⟨q, 0, none⟩ v5) base v5 (xs ++ [y]) ∧ Kp (fun g => v.ownBlock = some g ∨ g = q) w1 (w5.setCell ⟨q, 0, none⟩ v5) ∧ (v5.ownBlock = v.ownBlock ∨ ∀ g, v5.ownBlock = some g → w1.heap.size ≤ g) := by
  obtain ⟨a1, a2, a3', -, -⟩ := hA
  have hk := kp_set w5 q 0 v5
  have hs5 := hs.kp a2 (mkr_apart hs hrow.1)
  have nq : ∀ b, v5.ownBlock = some b → b ≠ q := fun b hb e => by
    subst e
    rcases a3' with e | e
    · rw [e] at hb
      exact mkr_apart hs hrow.1 hb
    · have := e b hb
      have := hs.lt
      omega
  have h3 : Kp (fun g => v.ownBlock = some g ∨ g = q) w1 (w5.setCell ⟨q, 0, none⟩ v5) := (a2.mono fun g e => .inl (.inl e)).trans hk (fun g e => .inl (.inr e))
  have hold : ∀ x : Value × DSt, ARow w1 base x.1 x.2.arcs → ARow (w5.setCell ⟨q, 0, none⟩ v5) base x.1 x.2.arcs := fun x hx => hx.kp h3 fun g hg e => by
    obtain ⟨_, cs, fz, hc⟩ := owns_cells hx g hg
    rcases e with e | e
    · obtain ⟨_, cs', fz', hc'⟩ := owns_cells hrow.1 g e
      rw [hc] at hc'
      cases hc'
    · subst e
      exact mkr_apartA hs hx hg
  refine ⟨cells_setCell hs5 0 _, ⟨?_, fun x hx => ?_⟩, h3, a3'⟩
  · unfold SRow
    rw [List.length_append, List.length_singleton, stsC_append, show stsC [y] = stC y by simp [stsC]]
    exact owns_same a1 fun b hb => hk.block b (a1.lt b hb).2 (nq b hb)
  · rcases List.mem_append.1 hx with h | h
    · exact hold x (hrow.2 x h)
    · rw [List.mem_singleton.1 h]
      exact hold y hy
theorem appd_drew {w1 w5 : World} {base q k o : Nat} {e : TypeId} {cs : List Value} {v v5 v0 : Value} (h : Appd w1 base e v k cs q o v0 v5 w5) : Appd w1 base e v k cs q o v0 v5 w5 := h

/-- A place in the row, and the row behind it. -/
def Numbered (w : World) (mb base : Nat) (v : Value) (xs : List (Value × DSt)) (y : Value × DSt) (e : Ending) (w' : World) : Prop :=
  ∃ (i : Nat) (v' : Value) (xs' : List (Value × DSt)), e = .returned (.int .i64 (i : Int)) ∧ i < xs'.length ∧ (xs' = xs ∨ xs' = xs ++ [y]) ∧ MkrB w' mb v' ∧ RowsI w' base v' xs' ∧ Kp (fun g => v.ownBlock = some g ∨ g = mb) w w' ∧ (v'.ownBlock = v.ownBlock ∨ ∀ g, v'.ownBlock = some g → w.heap.size ≤ g)

set_option maxHeartbeats 4000000 in
set_option maxRecDepth 100000 in
theorem refNumber_any {w : World} {mb base : Nat} {v : Value} {xs : List (Value × DSt)} {ea : Option Addr} {na qa : Nat} {z : DSt} (hm : MkrB w mb v) (hr : RowsI w base v xs) (hy : ARow w base (.slice ea na qa) z.arcs) (hna : z.arcs.length = na) (hn : xs.length ≤ 100000) (hx : ∀ x ∈ xs, x.2.arcs.length ≤ 100000) (hz : na ≤ 100000) (hbase : base ≤ w.heap.size) :
    Calls Tryd.prog 72 #[.pointer (some ⟨mb, 0, none⟩), .agg #[.slice ea na qa, .bool z.fin, .int .u64 (z.out : Int)]] w (Numbered w mb base v xs (.slice ea na qa, z)) := by
  obtain ⟨ad, c, rfl⟩ := hr.1.form
  obtain ⟨k0, hk0⟩ : ∃ k0, xs.length = k0 := ⟨_, rfl⟩
  rw [hk0] at hm hr hn ⊢
  obtain ⟨f, hf⟩ : ∃ f, z.fin = f := ⟨_, rfl⟩
  obtain ⟨ou, hou⟩ : ∃ ou, z.out = ou := ⟨_, rfl⟩
  rw [hf, hou]
  obtain ⟨W1, hW1⟩ : ∃ W1, W1 = w.alloc (.cells #[.slice ea na qa, .bool f, .int .u64 (ou : Int)] 64) := ⟨_, rfl⟩
  obtain ⟨p, hp⟩ : ∃ p, p = w.heap.size := ⟨_, rfl⟩
  have hb1 : Below w.heap.size w W1 := by rw [hW1]; exact below_alloc w _
  have sb : StB W1 p (.slice ea na qa) f ou := by rw [hW1, hp]; exact heap_alloc_new w _
  have hk1 : Kp (fun _ => False) w W1 := Kp.below hb1
  have hm1 := hm.kp hk1 (fun h => h)
  have hr1 : RowsI W1 base (.slice ad k0 c) xs := hr.kp hk1 (fun _ _ _ _ _ h => h)
  have hy1 : ARow W1 base (.slice ea na qa) z.arcs := hy.kp hk1 (fun _ _ h => h)
  have c0 := hm1.at0
  have H1 := Lib.hid (And.intro sb (And.intro hm1 (And.intro hr1 (And.intro hy1 (And.intro hb1 (And.intro hx (And.intro hk0 (And.intro hna (And.intro hf (And.intro hou hbase))))))))))
  have hpm : ¬ p = mb := by have := hm.lt; omega
  clear hm hr hy hk1 hm1 hr1 hy1 sb hb1 hx hk0 hna hf hou hbase
  go_enter Tryd.func72, Tryd.ntmps72
  go_upto_region 1 with fail
  rw [← hW1, ← hp]
  clear hW1 hp
  clear c0
  go_wp2
  go_loopw [5] (fun s5 wr => ∃ j : Nat, j ≤ k0 ∧ s5 = .int .i64 j ∧ Hid (Below W1.heap.size W1 wr)) (fun s5 _ => k0 - (intOf s5).toNat)
  case atStart => exact ⟨0, Nat.zero_le _, rfl, Lib.hid (Below.refl _ _)⟩
  case round =>
    obtain ⟨j, hj, rfl, HR⟩ := hrel
    have HC : Hid (∀ W, Below wr.heap.size wr W → MkrB W mb (.slice ad k0 c) ∧ StB W p (.slice ea na qa) f ou ∧ RowsI W base (.slice ad k0 c) xs ∧ ARow W base (.slice ea na qa) z.arcs) := Lib.hid fun W hb => by
      have hk : Kp (fun _ => False) W1 W := Kp.below (HR.out.trans (hb.mono HR.out.size))
      exact ⟨H1.out.2.1.kp hk (fun h => h), H1.out.1.kp hk (fun h => h), H1.out.2.2.1.kp hk (fun _ _ _ _ _ h => h), H1.out.2.2.2.1.kp hk (fun _ _ h => h)⟩
    obtain ⟨m1, m2, m3, m4⟩ := HC.out wr (Below.refl _ _)
    have c0 := m1.at0
    by_cases hlt : j < k0
    · have hjx : j < xs.length := by rw [H1.out.2.2.2.2.2.2.1]; exact hlt
      have hst := m3.sts
      obtain ⟨ad', c', e, hc⟩ := hst
      injection e with i1 i2 i3
      obtain ⟨b, o, had, u, p1, p2, p3, e1, q1, rfl, p4⟩ := hc j (by rw [List.length_map]; exact hjx)
      have ha1 := i1.trans had
      subst ha1
      clear hc i1 i2 i3 had
      have hxa : (stAt (xs.map (·.2)) j).arcs.length ≤ 100000 := by
        rw [stAt_lt (by rw [List.length_map]; exact hjx), List.getElem_map]
        exact H1.out.2.2.2.2.2.1 _ (List.getElem_mem hjx)
      obtain ⟨t, ht⟩ : ∃ t, stAt (xs.map (·.2)) j = t := ⟨_, rfl⟩
      rw [ht] at p1 p2 p3 p4 hxa
      have p5 : Arcs wr (.slice e1 t.arcs.length q1) t.arcs := ⟨e1, q1, rfl, p4⟩
      have p6 := m4.arcs
      have HQ : Hid (∀ W, Below wr.heap.size wr W → Calls Tryd.prog 40 #[.agg #[.slice e1 t.arcs.length q1, .bool t.fin, .int .u64 (t.out : Int)], .agg #[.slice ea na qa, .bool f, .int .u64 (ou : Int)]] W fun e w' => e = .returned (.bool (decide (t = z))) ∧ Below W.heap.size W w') := Lib.hid fun W hb => by
        rw [← H1.out.2.2.2.2.2.2.2.2.1, ← H1.out.2.2.2.2.2.2.2.2.2.1]
        exact alike_any (p5.below hb) (p6.below hb) (by omega) (by rw [H1.out.2.2.2.2.2.2.2.1]; omega)
      have HY : Hid (∀ W, Below wr.heap.size wr W → (W.cell? ⟨mb, 0, none⟩ = some (.slice (some ⟨b, o, none⟩) k0 c)) ∧ (W.cell? ⟨b, o + j * 3, none⟩ = some (.slice e1 t.arcs.length q1) ∧ W.cell? ⟨b, o + j * 3 + 1, none⟩ = some (.bool t.fin) ∧ W.cell? ⟨b, o + j * 3 + 2, none⟩ = some (.int .u64 (t.out : Int))) ∧ (W.cell? ⟨p, 0, none⟩ = some (.slice ea na qa) ∧ W.cell? ⟨p, 1, none⟩ = some (.bool f) ∧ W.cell? ⟨p, 2, none⟩ = some (.int .u64 (ou : Int)))) := Lib.hid fun W hb => by
        obtain ⟨s1, s2, -, -⟩ := HC.out W hb
        have sb := hb.block b (block_lt_of_cell p1)
        exact ⟨s1.at0, ⟨(cell_same sb).trans p1, (cell_same sb).trans p2, (cell_same sb).trans p3⟩, s2.at0, s2.at1, s2.at2⟩
      have il : (j : Int) < (k0 : Int) := by omega
      have d1 : decide ((j : Int) < (k0 : Int)) = true := by simp; omega
      obtain ⟨q, hq⟩ : ∃ q, decide (t = z) = q := ⟨_, rfl⟩
      rw [hq] at HQ
      have HM := Lib.hid (And.intro m1 m3)
      clear p1 p2 p3 p4 p5 p6 m1 m2 m3 m4 ht hq hxa hjx hlt
      go_upto_region 4 with fail
      clear c0
      refine Said.region (by kernel_rfl) (by kernel_rfl) (by kernel_rfl) [.is (.pointer (some ⟨mb, 0, none⟩)), .is (.pointer (some ⟨mb, 0, none⟩)), .is (.pointer (some ⟨mb, 0, none⟩)), .is (.slice (some ⟨b, o, none⟩) k0 c), .is (.int .i64 (j : Int)), .is (.pointer (some ⟨b, o + j * 3, none⟩)), .is (.agg #[.slice e1 t.arcs.length q1, .bool t.fin, .int .u64 (t.out : Int)]), .is (.agg #[.slice ea na qa, .bool f, .int .u64 (ou : Int)]), .is (.bool q)] ?_
      simp only [List.toList_toArray]
      iterate 8 (
        refine sq_pure (by rfl) (fun W hb _ => ?_) ?_
        · obtain ⟨y1, ⟨y2, y3, y4⟩, y5, y6, y7⟩ := HY.out W hb
          go_simp
        simp only [Act.put, List.setIfInBounds_toArray, List.set_cons_zero, List.set_cons_succ])
      refine sq_call (f := 40) (args := #[.agg #[.slice e1 t.arcs.length q1, .bool t.fin, .int .u64 (t.out : Int)], .agg #[.slice ea na qa, .bool f, .int .u64 (ou : Int)]]) (by rfl) (fun W => by go_simp) (fun W hb _ => HQ.out W hb) ?_
      simp only [Act.put, List.setIfInBounds_toArray, List.set_cons_zero, List.set_cons_succ]
      refine sq_end (fun W9 hb9 hK9 => ?_)
      have H9 := Lib.hid (HR.out.trans (hb9.mono HR.out.size))
      have HE := Lib.hid (HC.out W9 hb9)
      clear hK9 hb9
      cases q
      · go_wp2
        exact ⟨⟨j + 1, by omega, by go_num, H9⟩, by simp [intOf]; omega⟩
      · go_wp2
        go_ret
        exact ⟨j, _, xs, rfl, by rw [H1.out.2.2.2.2.2.2.1]; omega, .inl rfl, HE.out.1, HE.out.2.2.1, Kp.below (H1.out.2.2.2.2.1.trans (H9.out.mono H1.out.2.2.2.2.1.size)), .inl rfl⟩
    · have hjk : j = k0 := by omega
      subst hjk
      have d1 : decide ((j : Int) < (j : Int)) = false := by simp
      have y0 := m2.at0
      have y1 := m2.at1
      have y2 := m2.at2
      have HM := Lib.hid (And.intro m1 (And.intro m2 (And.intro m3 m4)))
      have z0 : ∀ ob, (wr.alloc ob).cell? ⟨mb, 0, none⟩ = some (.slice ad j c) := fun ob => (m1.below (below_alloc wr ob)).at0
      clear m1 m2 m3 m4 hlt
      go_upto_region 6 with fail
      go_region_law (refine step_append_row (w2 := wr) (vs := .slice ad j c) rfl (.tmp 29) (.tmp 31) rfl rfl Tryd.underlying22 iState rfl (by decide) base mb 0 (.slice ad j c) j (stsC xs) (stC (.slice ea na qa, z)) wr.heap.size rfl rfl (by unfold stC; rw [H1.out.2.2.2.2.2.2.2.2.1, H1.out.2.2.2.2.2.2.2.2.2.1]; exact heap_alloc_new wr _) (below_alloc wr _).drew (by have := HM.out.2.2.1.1; unfold SRow at this; rw [H1.out.2.2.2.2.2.2.1] at this; exact this) (by omega) (by have := HR.out.size; have := H1.out.2.2.2.2.1.size; have := H1.out.2.2.2.2.2.2.2.2.2.2; omega) rfl (by intro u hu; simp [stC] at hu; rcases hu with rfl | rfl | rfl <;> rfl) (mkr_apart HM.out.1 HM.out.2.2.1.1) HM.out.1.at0 (HM.out.1.free 0) HM.out.1.lt ?_
                     intro a5 n5 c5 w5' hA5 s1 s2)
      all_goals (
        obtain ⟨r1, r2, r3, r4⟩ := rowsM_next (y := (.slice ea na qa, z)) (v5 := .slice a5 n5 c5) HM.out.1 HM.out.2.2.1 HM.out.2.2.2 (by rw [H1.out.2.2.2.2.2.2.1]; exact hA5)
        obtain ⟨ar', cr', e⟩ := r2.1.form
        injection e with i1 i2 i3
        subst i1 i2 i3
        have hlen : (xs ++ [((.slice ea na qa, z) : Value × DSt)]).length = j + 1 := by simp [H1.out.2.2.2.2.2.2.1]
        rw [hlen] at r1 r2 r3 r4 ⊢
        obtain ⟨W, hW⟩ : ∃ W, W = w5'.setCell ⟨mb, 0, none⟩ (.slice a5 (j + 1) c5) := ⟨_, rfl⟩
        rw [← hW] at r1 r2 r3 ⊢
        have c9 := r1.at0
        have HZ := Lib.hid (And.intro r1 (And.intro r2 (And.intro r3 r4)))
        have HKW := Lib.hid (H1.out.2.2.2.2.1.trans (HR.out.mono H1.out.2.2.2.2.1.size))
        have hsub : ((j + 1 : Nat) : Int) - 1 = (j : Int) := by omega
        clear hA5 s1 s2 hW r1 r2 r3 r4
        go_wp2
        go_ret
        exact ⟨j, _, _, by first | rfl | (congr 2; omega), by rw [hlen]; omega, .inr rfl, HZ.out.1, HZ.out.2.1, (Kp.below HKW.out).trans HZ.out.2.2.1 (fun g e => .inl e), HZ.out.2.2.2.imp id fun h g e => Nat.le_trans HKW.out.size (h g e)⟩)
end Go.Proofs.YtjiilmiikejnhaaDoor
namespace Go.Proofs.YtjiilmiikejnhaaDoor
open Go.RowKit Go.Shelf

/-- An entry: word, weight, gone. -/
structure En where
  word : ByteArray
  weight : Nat
  gone : Bool
def En.value (x : En) : Nat := if x.gone then 0 else x.weight + 1
def enAt (l : List En) (i : Nat) : En := l.getD i ⟨⟨#[]⟩, 0, false⟩
/-- A row of entries, read. -/
def EnsA (w : World) (v : Value) (l : List En) : Prop := ∃ ad c, v = .slice ad l.length c ∧ (∀ x ∈ l, x.weight < 4294967296) ∧ ∀ i, i < l.length → ∃ b o, ad = some ⟨b, o, none⟩ ∧
  w.cell? ⟨b, o + i * 3, none⟩ = some (.string (enAt l i).word) ∧ w.cell? ⟨b, o + i * 3 + 1, none⟩ = some (.int .u32 ((enAt l i).weight : Int)) ∧ w.cell? ⟨b, o + i * 3 + 2, none⟩ = some (.bool (enAt l i).gone)
theorem EnsA.below {w w' : World} {v : Value} {l : List En} (h : EnsA w v l) (hb : Below w.heap.size w w') : EnsA w' v l := by
  obtain ⟨ad, c, e, hw, hc⟩ := h
  refine ⟨ad, c, e, hw, fun i hi => ?_⟩
  obtain ⟨b, o, e, h1, h2, h3⟩ := hc i hi
  have hs := hb.block b (block_lt_of_cell h1)
  exact ⟨b, o, e, (cell_same hs).trans h1, (cell_same hs).trans h2, (cell_same hs).trans h3⟩
theorem enAt_mem {l : List En} {i : Nat} (h : i < l.length) : enAt l i ∈ l := by
  unfold enAt
  rw [List.getD_eq_getElem?_getD, List.getElem?_eq_getElem h]
  exact List.getElem_mem h
theorem En.value_le {x : En} (h : x.weight < 4294967296) : x.value ≤ 4294967296 := by
  unfold En.value
  split <;> omega

set_option maxHeartbeats 1000000 in
set_option maxRecDepth 100000 in
theorem docValue_any {w : World} (x : En) (hx : x.weight < 4294967296) :
    Calls Tryd.prog 71 #[.agg #[.string x.word, .int .u32 (x.weight : Int), .bool x.gone]] w fun e w' => e = .returned (.int .u64 (x.value : Int)) ∧ Below w.heap.size w w' := by
  obtain ⟨x, n, g⟩ := x
  unfold En.value
  simp only at hx ⊢
  have hb := Lib.hid (below_alloc w (.cells #[.string x, .int .u32 (n : Int), .bool g] 136))
  cases g
  · go_enter Tryd.func71, Tryd.ntmps71
    go_wp2
    first
      | exact bodyPost_ret (v := .int .u64 ((n + 1 : Nat) : Int)) (by simp [results, Tryd.results71, go_sem]) rfl ⟨rfl, hb.out⟩
      | (go_ret; exact ⟨by simp, hb.out⟩)
  · go_enter Tryd.func71, Tryd.ntmps71
    go_wp2
    go_ret
    exact ⟨rfl, hb.out⟩

set_option maxHeartbeats 2000000 in
set_option maxRecDepth 100000 in
/-- The least value of entries: at most each one's. -/
theorem docLeast_any {w : World} {v : Value} {l : List En} (h : EnsA w v l) (h0 : l ≠ []) (hl : l.length ≤ 100000) :
    Calls Tryd.prog 48 #[v] w fun e w' => (∃ u : Nat, e = .returned (.int .u64 (u : Int)) ∧ u ≤ 4294967296 ∧ ∀ i, i < l.length → u ≤ (enAt l i).value) ∧ Below w.heap.size w w' := by
  have hh := h
  obtain ⟨ad, c, rfl, hw, hc⟩ := h
  obtain ⟨n, hn⟩ : ∃ n, l.length = n := ⟨_, rfl⟩
  have h1 : 0 < n := by rw [← hn]; exact List.length_pos_iff.2 h0
  rw [hn] at hc hl ⊢
  have HC : Hid (∀ W, Below w.heap.size w W → ∀ i, i < n → ∃ b o, ad = some ⟨b, o, none⟩ ∧ W.cell? ⟨b, o + i * 3, none⟩ = some (.string (enAt l i).word) ∧ W.cell? ⟨b, o + i * 3 + 1, none⟩ = some (.int .u32 ((enAt l i).weight : Int)) ∧ W.cell? ⟨b, o + i * 3 + 2, none⟩ = some (.bool (enAt l i).gone)) := Lib.hid fun W hb i hi => by
    obtain ⟨b, o, e, h1, h2, h3⟩ := hc i hi
    have hs := hb.block b (block_lt_of_cell h1)
    exact ⟨b, o, e, (cell_same hs).trans h1, (cell_same hs).trans h2, (cell_same hs).trans h3⟩
  have QV : Hid (∀ W i, i < n → Calls Tryd.prog 71 #[.agg #[.string (enAt l i).word, .int .u32 ((enAt l i).weight : Int), .bool (enAt l i).gone]] W fun e w' => e = .returned (.int .u64 ((enAt l i).value : Int)) ∧ Below W.heap.size W w') := Lib.hid fun W i hi => docValue_any _ (hw _ (enAt_mem (by omega)))
  have HV : Hid (∀ i, i < n → (enAt l i).value ≤ 4294967296) := Lib.hid fun i hi => En.value_le (hw _ (enAt_mem (by omega)))
  obtain ⟨b, o, rfl, c1, c2, c3⟩ := HC.out w (Below.refl _ _) 0 h1
  rw [Nat.zero_mul, Nat.add_zero] at c1 c2 c3
  have Q0 := Lib.hid (QV.out w 0 h1)
  have i0 : (0 : Int) < (n : Int) := by omega
  clear hh hw hc hn h0
  go_enter Tryd.func48, Tryd.ntmps48
  go_wp2_with (go_at_call 71
               (with_reducible refine Q0.out.mono ?_)
               go_loud (
               rintro e' w1 ⟨rfl, hb1⟩
               have H1 := Lib.hid hb1
               clear hb1))
  go_loopw [3, 4] (fun s3 s4 wr => ∃ (k u : Nat), 1 ≤ k ∧ k ≤ n ∧ s3 = .int .u64 u ∧ s4 = .int .i64 k ∧ Hid (u ≤ 4294967296 ∧ ∀ i, i < k → u ≤ (enAt l i).value) ∧ Hid (Below w.heap.size w wr)) (fun _ s4 _ => n - (intOf s4).toNat)
  case atStart => exact ⟨1, (enAt l 0).value, by omega, h1, rfl, rfl, Lib.hid ⟨HV.out 0 h1, fun i hi => by rw [show i = 0 by omega]; exact Nat.le_refl _⟩, H1⟩
  case round =>
    obtain ⟨k, u, hk1, hk, rfl, rfl, HU, HB⟩ := hrel
    by_cases hlt : k < n
    · have d1 : decide ((k : Int) < (n : Int)) = true := by simp; omega
      have ik : (k : Int) < (n : Int) := by omega
      obtain ⟨b', o', e', x1, x2, x3⟩ := HC.out wr HB.out k hlt
      injection e' with e'
      injection e' with e1 e2 e3
      subst e1 e2
      have QK := Lib.hid (QV.out wr k hlt)
      have HVK := Lib.hid (HV.out k hlt)
      obtain ⟨y, hy⟩ : ∃ y, (enAt l k).value = y := ⟨_, rfl⟩
      rw [hy] at QK HVK
      obtain ⟨mm, hmm⟩ : ∃ mm : Nat, mm = min u y := ⟨_, rfl⟩
      have hmi : min (u : Int) (y : Int) = (mm : Int) := by omega
      have HMM := Lib.hid (And.intro hmm hy)
      clear hmm hy hlt
      go_wp2_with (go_at_call 71
                   (with_reducible refine QK.out.mono ?_)
                   go_loud (
                   rintro e' w2 ⟨rfl, hb2⟩
                   have H2 := Lib.hid (HB.out.trans (hb2.mono HB.out.size))
                   clear hb2))
      exact ⟨⟨k + 1, mm, by omega, by omega, by first | rfl | (simp; omega), by go_num, Lib.hid ⟨by have := HU.out.1; have := HMM.out.1; omega, fun i hi => by
        have h1 := HMM.out.1
        by_cases e : i = k
        · rw [e, HMM.out.2]; omega
        · have := HU.out.2 i (by omega); omega⟩, H2⟩, by simp [intOf]; omega⟩
    · have hkn : k = n := by omega
      subst hkn
      have d1 : decide ((k : Int) < (k : Int)) = false := by simp
      clear hlt
      go_wp2
      go_ret
      exact ⟨⟨u, rfl, HU.out.1, HU.out.2⟩, HB.out⟩
end Go.Proofs.YtjiilmiikejnhaaDoor
namespace Go.Proofs.YtjiilmiikejnhaaDoor
open Plain

def wd (x : En) : List UInt8 := x.word.data.toList
/-- Entries whose words rise, are no shorter than the depth, and share as many bytes. -/
structure Good (d : Nat) (l : List En) : Prop where
  long : ∀ x ∈ l, d ≤ (wd x).length
  rise : l.Pairwise fun a b => less (wd a) (wd b) = true
  same : ∀ x ∈ l, ∀ y ∈ l, (wd x).take d = (wd y).take d
def total (d : Nat) (l : List En) : Nat := (l.map fun x => (wd x).length - d).sum
/-- Of the entries from i up to k those that go on with the byte. -/
def own (d i k : Nat) (b : UInt8) (l : List En) : List En := ((l.take k).drop i).filter fun x => decide ((wd x)[d]? = some b)

theorem enAt_lt {l : List En} {i : Nat} (h : i < l.length) : enAt l i = l[i] := by
  unfold enAt
  rw [List.getD_eq_getElem?_getD, List.getElem?_eq_getElem h]
  rfl
theorem own_start (d i : Nat) (b : UInt8) (l : List En) : own d i i b l = [] := by
  unfold own
  rw [List.drop_of_length_le (by rw [List.length_take]; omega)]
  rfl
theorem own_split {d i k : Nat} {b : UInt8} {l : List En} (hi : i ≤ k) (hk : k < l.length) : own d i (k + 1) b l = own d i k b l ++ (if (wd (enAt l k))[d]? = some b then [enAt l k] else []) := by
  unfold own
  rw [show l.take (k + 1) = l.take k ++ [l[k]] by rw [List.take_add_one, List.getElem?_eq_getElem hk]; rfl, List.drop_append_of_le_length (by rw [List.length_take]; omega), List.filter_append, enAt_lt hk]
  congr 1
  by_cases h : (wd l[k])[d]? = some b
  · rw [if_pos h]; simp [h]
  · rw [if_neg h]; simp [h]
theorem own_in {d i k : Nat} {b : UInt8} {l : List En} (hi : i ≤ k) (hk : k < l.length) (h : (wd (enAt l k))[d]? = some b) : own d i (k + 1) b l = own d i k b l ++ [enAt l k] := by rw [own_split hi hk, if_pos h]
theorem own_out {d i k : Nat} {b : UInt8} {l : List En} (hi : i ≤ k) (hk : k < l.length) (h : ¬ (wd (enAt l k))[d]? = some b) : own d i (k + 1) b l = own d i k b l := by rw [own_split hi hk, if_neg h, List.append_nil]
theorem own_sub (d i k : Nat) (b : UInt8) (l : List En) : List.Sublist (own d i k b l) l := (List.filter_sublist).trans ((List.drop_sublist _ _).trans (List.take_sublist _ _))
theorem own_length (d i k : Nat) (b : UInt8) (l : List En) : (own d i k b l).length ≤ k - i := by
  unfold own
  refine Nat.le_trans (List.length_filter_le _ _) ?_
  rw [List.length_drop, List.length_take]
  omega
theorem own_mem {d i k : Nat} {b : UInt8} {l : List En} {x : En} (h : x ∈ own d i k b l) : x ∈ l ∧ (wd x)[d]? = some b := by
  refine ⟨(own_sub d i k b l).mem h, ?_⟩
  have := (List.mem_filter.1 h).2
  simpa using this
theorem own_first {d i k : Nat} {b : UInt8} {l : List En} (hi : i < k) (hl : i < l.length) (h : (wd (enAt l i))[d]? = some b) : own d i k b l ≠ [] := by
  have e : enAt l i ∈ (l.take k).drop i := by
    rw [List.mem_iff_getElem?]
    refine ⟨0, ?_⟩
    rw [List.getElem?_drop, Nat.add_zero, List.getElem?_take, if_pos hi, enAt_lt hl, List.getElem?_eq_getElem hl]
  intro h0
  have : enAt l i ∈ own d i k b l := List.mem_filter.2 ⟨e, by simpa using h⟩
  rw [h0] at this
  cases this
theorem take_one {d : Nat} {x : List UInt8} {b : UInt8} (h : x[d]? = some b) : x.take (d + 1) = x.take d ++ [b] := by rw [List.take_add_one, h]; rfl
theorem Good.own {d : Nat} {l : List En} (h : Good d l) (i k : Nat) (b : UInt8) : Good (d + 1) (own d i k b l) := by
  refine ⟨fun x hx => ?_, h.rise.sublist (own_sub d i k b l), fun x hx y hy => ?_⟩
  · have := (own_mem hx).2
    have := (List.getElem?_eq_some_iff.1 this).1
    omega
  · obtain ⟨x1, x2⟩ := own_mem hx
    obtain ⟨y1, y2⟩ := own_mem hy
    rw [take_one x2, take_one y2, h.same x x1 y y1]
theorem behind_sub (d : Nat) (B : List UInt8) : ∀ {l1 l : List (List UInt8)}, List.Sublist l1 l → behind d B l1 ≤ behind d B l
  | _, _, .slnil => Nat.le_refl _
  | _, _, .cons a h => by
    rw [show ∀ l2, behind d B (a :: l2) = (if ∃ b ∈ B, a[d]? = some b then a.length - d else 0) + behind d B l2 from fun _ => rfl]
    have := behind_sub d B h
    omega
  | _, _, .cons_cons a h => by
    rw [show ∀ l2, behind d B (a :: l2) = (if ∃ b ∈ B, a[d]? = some b then a.length - d else 0) + behind d B l2 from fun _ => rfl]
    have := behind_sub d B h
    rw [show ∀ l2, behind d B (a :: l2) = (if ∃ b ∈ B, a[d]? = some b then a.length - d else 0) + behind d B l2 from fun _ => rfl]
    omega
theorem total_all {d : Nat} {b : UInt8} : ∀ {l : List En}, (∀ x ∈ l, (wd x)[d]? = some b) → l.length + total (d + 1) l = behind d [b] (l.map wd)
  | [], _ => rfl
  | x :: l, h => by
    have hx := h x List.mem_cons_self
    have hl := (List.getElem?_eq_some_iff.1 hx).1
    have ih := total_all fun y hy => h y (List.mem_cons_of_mem _ hy)
    unfold total at ih ⊢
    rw [List.map_cons, List.map_cons, List.sum_cons, List.length_cons]
    unfold behind
    rw [if_pos ⟨b, List.mem_singleton.2 rfl, hx⟩, ← ih]
    omega
theorem count_own {d i k : Nat} {b : UInt8} {l : List En} (h0 : own d i k b l ≠ []) : 1 + total (d + 1) (own d i k b l) ≤ behind d [b] (l.map wd) := by
  have h1 := total_all (d := d) (b := b) (l := own d i k b l) fun x hx => (own_mem hx).2
  have h2 := behind_sub d [b] ((own_sub d i k b l).map wd)
  have h3 := List.length_pos_iff.2 h0
  omega
theorem mono_at : ∀ {d : Nat} {x y : List UInt8} {b c : UInt8}, less x y = true → x.take d = y.take d → x[d]? = some b → y[d]? = some c → b.toNat ≤ c.toNat
  | 0, x, y, b, c, h, _, hx, hy => by
    cases x with
    | nil => simp at hx
    | cons a x =>
      cases y with
      | nil => simp at hy
      | cons e y =>
        simp only [List.getElem?_cons_zero, Option.some.injEq] at hx hy
        subst hx hy
        unfold less at h
        by_cases g : a = e
        · rw [g]; exact Nat.le_refl _
        · rw [if_neg g] at h
          simp only [decide_eq_true_eq] at h
          omega
  | d + 1, x, y, b, c, h, t, hx, hy => by
    cases x with
    | nil => simp at hx
    | cons a x =>
      cases y with
      | nil => simp at hy
      | cons e y =>
        simp only [List.take_succ_cons, List.cons.injEq] at t
        obtain ⟨rfl, t⟩ := t
        unfold less at h
        rw [if_pos rfl] at h
        simp only [List.getElem?_cons_succ] at hx hy
        exact mono_at h t hx hy
/-- The bytes so far: none is greater than the last one, nor than a byte that comes. -/
structure BI (d i : Nat) (l : List En) (B : List UInt8) : Prop where
  last : ∀ b ∈ B, ∀ z, B.getLast? = some z → b.toNat ≤ z.toNat
  ahead : ∀ b ∈ B, ∀ j, i ≤ j → j < l.length → ∀ c, (wd (enAt l j))[d]? = some c → b.toNat ≤ c.toNat
theorem BI.nil (d i : Nat) (l : List En) : BI d i l [] := ⟨fun _ h => (by cases h), fun _ h => (by cases h)⟩
theorem BI.skip {d i : Nat} {l : List En} {B : List UInt8} (h : BI d i l B) : BI d (i + 1) l B := ⟨h.last, fun b hb j hj => h.ahead b hb j (by omega)⟩
theorem BI.add {d i : Nat} {l : List En} {B : List UInt8} {c : UInt8} (h : BI d i l B) (hg : Good d l) (hi : i < l.length) (hc : (wd (enAt l i))[d]? = some c) : BI d (i + 1) l (B ++ [c]) := by
  refine ⟨fun b hb z hz => ?_, fun b hb j hj hjl e he => ?_⟩
  · rw [List.getLast?_append, List.getLast?_singleton] at hz
    have hz' : c = z := by simpa using hz
    subst hz'
    rcases List.mem_append.1 hb with hb | hb
    · exact h.ahead b hb i (Nat.le_refl _) hi c hc
    · rw [List.mem_singleton.1 hb]; exact Nat.le_refl _
  · rcases List.mem_append.1 hb with hb | hb
    · exact h.ahead b hb j (by omega) hjl e he
    · rw [List.mem_singleton.1 hb]
      have hr := List.pairwise_iff_getElem.1 hg.rise i j hi hjl (by omega)
      rw [enAt_lt hi] at hc
      rw [enAt_lt hjl] at he
      exact mono_at hr (hg.same _ (List.getElem_mem hi) _ (List.getElem_mem hjl)) hc he
theorem BI.new {d i : Nat} {l : List En} {B : List UInt8} {c : UInt8} (h : BI d i l B) (hi : i < l.length) (hc : (wd (enAt l i))[d]? = some c) (hn : B.getLast? ≠ some c) : c ∉ B := fun hm => by
  cases hB : B.getLast? with
  | none => rw [List.getLast?_eq_none_iff.1 hB] at hm; cases hm
  | some z =>
    have h1 := h.last c hm z hB
    have hz : z ∈ B := List.mem_of_getLast? hB
    have h2 := h.ahead z hz i (Nat.le_refl _) hi c hc
    exact hn (by rw [hB, UInt8.toNat_inj.1 (Nat.le_antisymm h1 h2)])
theorem total_le {d n : Nat} : ∀ {l : List En}, (∀ x ∈ l, (wd x).length ≤ n) → total d l ≤ l.length * n
  | [], _ => by simp [total]
  | x :: l, h => by
    have ih := total_le (d := d) fun y hy => h y (List.mem_cons_of_mem _ hy)
    have := h x List.mem_cons_self
    unfold total at ih ⊢
    rw [List.map_cons, List.sum_cons, List.length_cons, Nat.succ_mul]
    omega
theorem behind_total (d : Nat) (B : List UInt8) (l : List En) : behind d B (l.map wd) ≤ total d l := by
  have h := behind_le d B (l.map wd)
  rw [List.map_map] at h
  exact h
end Go.Proofs.YtjiilmiikejnhaaDoor
namespace Go.Proofs.YtjiilmiikejnhaaDoor
open Go.RowKit Go.Shelf Said

def enC (x : En) : List Value := [.string x.word, .int .u32 (x.weight : Int), .bool x.gone]
def ensC (l : List En) : List Value := l.flatMap enC
theorem ensC_length (l : List En) : (ensC l).length = l.length * 3 := by
  unfold ensC
  induction l with
  | nil => rfl
  | cons x l ih => simp [List.flatMap_cons, ih, enC]; omega
theorem ensC_snoc (A : List En) (x : En) : ensC (A ++ [x]) = ensC A ++ enC x := by simp [ensC]
theorem ensC_get : ∀ (l : List En) (i c : Nat), i < l.length → c < 3 → (ensC l)[i * 3 + c]? = (enC (enAt l i))[c]?
  | [], i, c, h, _ => by simp at h
  | x :: l, 0, c, _, hc => by
    show (enC x ++ ensC l)[0 * 3 + c]? = _
    rw [List.getElem?_append_left (by simp [enC]; omega), Nat.zero_mul, Nat.zero_add]
    rfl
  | x :: l, i + 1, c, h, hc => by
    show (enC x ++ ensC l)[(i + 1) * 3 + c]? = _
    rw [List.getElem?_append_right (by simp [enC]; omega), show (i + 1) * 3 + c - (enC x).length = i * 3 + c by simp [enC]; omega, ensC_get l i c (by simpa using h) hc]
    rfl
/-- Entries of one's own. -/
def EnsO (w : World) (base : Nat) (v : Value) (l : List En) : Prop := w.ownsRow base 136 3 v l.length (ensC l) ∧ ∀ x ∈ l, x.weight < 4294967296
/-- Entries that are read, in a block of entries. -/
def EnsK (w : World) (v : Value) (l : List En) : Prop := EnsA w v l ∧ ∀ g o n c, v = .slice (some ⟨g, o, none⟩) n c → ∃ cs fz, w.heap[g]? = some (.cells cs 136 fz)
theorem EnsO.toK {w : World} {base : Nat} {v : Value} {l : List En} (h : EnsO w base v l) : EnsK w v l := by
  obtain ⟨h, hw⟩ := h
  rcases id h.2 with ⟨rfl, h0⟩ | ⟨g, cap, cur, rfl, _, hg, _, _, _, ht⟩
  · exact ⟨⟨none, 0, by rw [h0], hw, fun i hi => by omega⟩, fun g o n c e => by cases e⟩
  · refine ⟨⟨_, cap, rfl, hw, fun i hi => ⟨g, 0, rfl, ?_⟩⟩, fun g' o n c e => ?_⟩
    · have h3 : ∀ c, c < 3 → w.cell? ⟨g, 0 + i * 3 + c, none⟩ = (enC (enAt l i))[c]? := fun c hc => by
        rw [Nat.zero_add, World.ownsRow.cellAt h _ (by omega)]
        exact ensC_get l i c hi hc
      exact ⟨h3 0 (by omega), h3 1 (by omega), h3 2 (by omega)⟩
    · injection e with e
      injection e with e
      injection e with e
      subst e
      exact ⟨cur, (0, 0), hg⟩
theorem EnsK.kp {w w' : World} {v : Value} {l : List En} {M : Nat → Prop} (h : EnsK w v l) (hk : Kp M w w') (hm : ∀ g cs fz, w.heap[g]? = some (.cells cs 136 fz) → ¬ M g) : EnsK w' v l := by
  obtain ⟨⟨ad, c, rfl, hw, hc⟩, ht⟩ := h
  have hs : ∀ g o n c', Value.slice ad l.length c = .slice (some ⟨g, o, none⟩) n c' → w'.heap[g]? = w.heap[g]? := fun g o n c' e => by
    obtain ⟨cs, fz, h⟩ := ht g o n c' e
    exact hk.block g (Array.getElem?_eq_some_iff.1 h).1 (hm g cs fz h)
  refine ⟨⟨ad, c, rfl, hw, fun i hi => ?_⟩, fun g o n c' e => ?_⟩
  · obtain ⟨b, o, e, h1, h2, h3⟩ := hc i hi
    have := hs b o l.length c (by rw [e])
    exact ⟨b, o, e, (cell_same this).trans h1, (cell_same this).trans h2, (cell_same this).trans h3⟩
  · obtain ⟨cs, fz, h⟩ := ht g o n c' e
    exact ⟨cs, fz, (hs g o n c' e).trans h⟩
theorem EnsK.below {w w' : World} {v : Value} {l : List En} (h : EnsK w v l) (hb : Below w.heap.size w w') : EnsK w' v l := h.kp (Kp.below (M := fun _ => False) hb) fun _ _ _ _ h => h
/-- The frame of a call of state does not touch entries. -/
theorem EnsK.stated {w w' : World} {v : Value} {l : List En} {base mb : Nat} {u : Value} {xs : List (Value × DSt)} (h : EnsK w v l) (hm : MkrB w mb u) (hr : RowsI w base u xs) (hk : Kp (fun g => u.ownBlock = some g ∨ g = mb) w w') : EnsK w' v l :=
  h.kp hk fun g cs fz hg e => by
    rcases e with e | e
    · obtain ⟨_, cs', fz', h'⟩ := owns_cells hr.1 g e
      rw [hg] at h'
      cases h'
    · subst e
      have h' : w.heap[g]? = some _ := hm
      rw [hg] at h'
      cases h'

def Fit (z : DSt) : Prop := z.arcs.length ≤ 30 ∧ z.ok
/-- What a call leaves. -/
def Stated (w : World) (mb base : Nat) (v : Value) (xs : List (Value × DSt)) (t : Nat) (e : Ending) (w' : World) : Prop :=
  ∃ (i : Nat) (v' : Value) (xs' : List (Value × DSt)), e = .returned (.int .i64 (i : Int)) ∧ i < xs'.length ∧ xs'.length ≤ xs.length + t ∧ (∀ x ∈ xs', x ∈ xs ∨ (Fit x.2 ∧ ∀ g, x.1.ownBlock = some g → w.heap.size ≤ g)) ∧
    MkrB w' mb v' ∧ RowsI w' base v' xs' ∧ Kp (fun g => v.ownBlock = some g ∨ g = mb) w w' ∧ (v'.ownBlock = v.ownBlock ∨ ∀ g, v'.ownBlock = some g → w.heap.size ≤ g)
structure SI (w : World) (mb base p : Nat) (v0 : Value) (xs0 : List (Value × DSt)) (v : Value) (xs : List (Value × DSt)) (av : Value) (z : DSt) (W : World) : Prop where
  mkr : MkrB W mb v
  rows : RowsI W base v xs
  box : StB W p av z.fin z.out
  arc : ARow W w.heap.size av z.arcs
  vp : v.ownBlock ≠ some p
  apart : ∀ x ∈ xs, ∀ g, x.1.ownBlock = some g → av.ownBlock ≠ some g
  kp : Kp (fun g => v0.ownBlock = some g ∨ g = mb) w W
  fresh : v.ownBlock = v0.ownBlock ∨ ∀ g, v.ownBlock = some g → w.heap.size ≤ g
  news : ∀ x ∈ xs, x ∈ xs0 ∨ (Fit x.2 ∧ ∀ g, x.1.ownBlock = some g → w.heap.size ≤ g)
  pge : w.heap.size ≤ p
  hb : base ≤ w.heap.size
section
variable {w W W' : World} {mb base p : Nat} {v0 v av : Value} {xs0 xs : List (Value × DSt)} {z : DSt}
theorem SI.pmb (h : SI w mb base p v0 xs0 v xs av z W) : p ≠ mb := fun e => by
  subst e
  have h1 : W.heap[p]? = some _ := h.box
  have h2 : W.heap[p]? = some _ := h.mkr
  rw [h1] at h2
  cases h2
theorem SI.arcp (h : SI w mb base p v0 xs0 v xs av z W) : av.ownBlock ≠ some p := fun e => by
  obtain ⟨_, cs, fz, h2⟩ := owns_cells h.arc p e
  have h1 : W.heap[p]? = some _ := h.box
  rw [h1] at h2
  cases h2
theorem SI.arcv (h : SI w mb base p v0 xs0 v xs av z W) {g : Nat} (e : v.ownBlock = some g) : av.ownBlock ≠ some g := fun e2 => by
  obtain ⟨_, cs, fz, h2⟩ := owns_cells h.arc g e2
  obtain ⟨_, cs', fz', h1⟩ := owns_cells h.rows.1 g e
  rw [h1] at h2
  cases h2
theorem SI.xp (h : SI w mb base p v0 xs0 v xs av z W) {x : Value × DSt} (hx : x ∈ xs) : x.1.ownBlock ≠ some p := fun e => by
  obtain ⟨_, cs, fz, h2⟩ := owns_cells (h.rows.2 x hx) p e
  have h1 : W.heap[p]? = some _ := h.box
  rw [h1] at h2
  cases h2
theorem SI.below (h : SI w mb base p v0 xs0 v xs av z W) (hb : Below W.heap.size W W') : SI w mb base p v0 xs0 v xs av z W' :=
  have hk : Kp (fun _ => False) W W' := Kp.below hb
  ⟨h.mkr.kp hk id, h.rows.kp hk fun _ _ _ _ _ h => h, h.box.kp hk id, h.arc.kp hk fun _ _ h => h, h.vp, h.apart, h.kp.trans hk fun _ h => h.elim, h.fresh, h.news, h.pge, h.hb⟩
theorem SI.start (hm : MkrB w mb v0) (hr : RowsI w base v0 xs0) (hb : base ≤ w.heap.size) : SI w mb base w.heap.size v0 xs0 v0 xs0 (.slice none 0 0) ⟨[], false, 0⟩ (w.alloc (.cells #[.slice none 0 0, .bool false, .int .u64 0] 64)) :=
  have hk : Kp (fun _ => False) w (w.alloc (.cells #[.slice none 0 0, .bool false, .int .u64 0] 64)) := Kp.below (below_alloc w _)
  ⟨hm.kp hk id, hr.kp hk fun _ _ _ _ _ h => h, heap_alloc_new w _, ⟨rfl, .inl ⟨rfl, rfl⟩⟩, fun e => (by have := (hr.1.lt _ e).2; omega), fun _ _ _ _ e => (by cases e), hk.mono fun _ h => h.elim, .inl rfl, fun _ h => .inl h, Nat.le_refl _, hb⟩
theorem SI.child {t : Nat} {e : Ending} (h : SI w mb base p v0 xs0 v xs av z W) (hS : Stated W mb base v xs t e W') :
    ∃ (i : Nat) (v' : Value) (xs' : List (Value × DSt)), e = .returned (.int .i64 (i : Int)) ∧ i < xs'.length ∧ xs'.length ≤ xs.length + t ∧ SI w mb base p v0 xs0 v' xs' av z W' ∧ Kp (fun g => v.ownBlock = some g ∨ g = mb) W W' := by
  obtain ⟨i, v', xs', rfl, hi, ht, hn, hm, hr, hk, hf⟩ := hS
  refine ⟨i, v', xs', rfl, hi, ht, ⟨hm, hr, h.box.kp hk fun e => e.elim h.vp h.pmb, h.arc.kp hk fun g hg e => ?_, fun e => ?_, fun x hx g hg e => ?_, h.kp.trans hk fun g e => ?_, ?_, fun x hx => ?_, h.pge, h.hb⟩, hk⟩
  · rcases e with e | e
    · exact h.arcv e hg
    · subst e
      exact mkr_apartA h.mkr h.arc hg
  · rcases hf with hf | hf
    · rw [hf] at e
      exact h.vp e
    · have := hf p e
      have := h.box.lt
      omega
  · rcases hn x hx with hx | ⟨_, hx⟩
    · exact h.apart x hx g hg e
    · have h1 := hx g hg
      have h2 := (h.arc.lt g e).2
      omega
  · rcases e with e | e
    · rcases h.fresh with hf | hf
      · exact .inl (.inl (hf ▸ e))
      · exact .inr (hf g e)
    · exact .inl (.inr e)
  · rcases hf with hf | hf
    · rw [hf]; exact h.fresh
    · exact .inr fun g e => Nat.le_trans h.kp.size (hf g e)
  · rcases hn x hx with hx | ⟨h1, h2⟩
    · exact h.news x hx
    · exact .inr ⟨h1, fun g e => Nat.le_trans h.kp.size (h2 g e)⟩
theorem SI.setbox (h : SI w mb base p v0 xs0 v xs av z W) {z' : DSt} {j : Nat} {u : Value} (hb : StB (W.setCell ⟨p, j, none⟩ u) p av z'.fin z'.out) (ha : z'.arcs = z.arcs) : SI w mb base p v0 xs0 v xs av z' (W.setCell ⟨p, j, none⟩ u) := by
  have hk := kp_set W p j u
  refine ⟨h.mkr.kp hk fun e => h.pmb e.symm, ⟨owns_same h.rows.1 fun g hg => hk.block g (h.rows.1.lt g hg).2 fun e => h.vp (e ▸ hg), fun x hx => (h.rows.2 x hx).kp hk fun g hg e => h.xp hx (e ▸ hg)⟩, hb, ?_, h.vp, h.apart, h.kp.trans hk fun g e => .inr (e ▸ h.pge), h.fresh, h.news, h.pge, h.hb⟩
  rw [ha]
  exact h.arc.kp hk fun g hg e => h.arcp (e ▸ hg)
theorem SI.more (h : SI w mb base p v0 xs0 v xs av z W) {a : DArc} {u av' : Value} {W5 : World} (hA : Appd W w.heap.size 66 av (z.arcs.length + 1) (arcsC z.arcs ++ arcC a) p 0 u av' W5) :
    SI w mb base p v0 xs0 v xs av' { z with arcs := z.arcs ++ [a] } (W5.setCell ⟨p, 0, none⟩ av') ∧ Kp (fun g => av.ownBlock = some g ∨ g = p) W (W5.setCell ⟨p, 0, none⟩ av') := by
  obtain ⟨a1, a2, a3, -, -⟩ := hA
  have hks := kp_set W5 p 0 av'
  have hk : Kp (fun g => av.ownBlock = some g ∨ g = p) W (W5.setCell ⟨p, 0, none⟩ av') := (a2.mono fun g e => .inl (.inl e)).trans hks fun g e => .inl (.inr e)
  have hb5 : StB W5 p av z.fin z.out := h.box.kp a2 h.arcp
  refine ⟨⟨h.mkr.kp hk fun e => e.elim (mkr_apartA h.mkr h.arc) fun e => h.pmb e.symm, ⟨owns_same h.rows.1 fun g hg => hk.block g (h.rows.1.lt g hg).2 fun e => e.elim (h.arcv hg) fun e => h.vp (e ▸ hg), fun x hx => (h.rows.2 x hx).kp hk fun g hg e => e.elim (h.apart x hx g hg) fun e => h.xp hx (e ▸ hg)⟩, hb5.set0 av', ?_, h.vp, fun x hx g hg e => ?_, h.kp.trans hk fun g e => ?_, h.fresh, h.news, h.pge, h.hb⟩, hk⟩
  · show (W5.setCell ⟨p, 0, none⟩ av').ownsRow _ _ _ av' (z.arcs ++ [a]).length (arcsC (z.arcs ++ [a]))
    rw [List.length_append, List.length_singleton, arcsC_snoc]
    refine owns_same a1 fun b hb => hks.block b (a1.lt b hb).2 fun e => ?_
    subst e
    rcases a3 with e | e
    · rw [e] at hb
      exact h.arcp hb
    · have := e b hb
      have := h.box.lt
      omega
  · rcases a3 with e3 | e3
    · rw [e3] at e
      exact h.apart x hx g hg e
    · have h1 := e3 g e
      have h2 := ((h.rows.2 x hx).lt g hg).2
      omega
  · rcases e with e | e
    · exact .inr (owns_cells h.arc g e).1
    · exact .inr (e ▸ h.pge)
theorem SI.finish {e : Ending} {t : Nat} (h : SI w mb base p v0 xs0 v xs av z W) (hz : Fit z) (hN : Numbered W mb base v xs (av, z) e W') (ht : xs.length + 1 ≤ xs0.length + t) : Stated w mb base v0 xs0 t e W' := by
  obtain ⟨i, v', xs', rfl, hi, hx', hm, hr, hk, hf⟩ := hN
  refine ⟨i, v', xs', rfl, hi, ?_, fun x hx => ?_, hm, hr, h.kp.trans hk fun g e => ?_, ?_⟩
  · rcases hx' with rfl | rfl
    · omega
    · rw [List.length_append, List.length_singleton]; exact ht
  · rcases hx' with rfl | rfl
    · exact h.news x hx
    · rcases List.mem_append.1 hx with hx | hx
      · exact h.news x hx
      · rw [List.mem_singleton.1 hx]
        exact .inr ⟨hz, fun g e => (owns_cells h.arc g e).1⟩
  · rcases e with e | e
    · rcases h.fresh with hf | hf
      · exact .inl (.inl (hf ▸ e))
      · exact .inr (hf g e)
    · exact .inl (.inr e)
  · rcases hf with hf | hf
    · rw [hf]; exact h.fresh
    · exact .inr fun g e => Nat.le_trans h.kp.size (hf g e)
/-- Entries stay where an arc is added: their block is of entries. -/
theorem SI.entsMore (h : SI w mb base p v0 xs0 v xs av z W) {ev : Value} {l : List En} (he : EnsK W ev l) (hk : Kp (fun g => av.ownBlock = some g ∨ g = p) W W') : EnsK W' ev l :=
  he.kp hk fun g cs fz hg e => by
    rcases e with e | e
    · obtain ⟨_, cs', fz', h'⟩ := owns_cells h.arc g e
      rw [hg] at h'
      cases h'
    · subst e
      have h' : W.heap[g]? = some _ := h.box
      rw [hg] at h'
      cases h'
theorem SI.entsSet (h : SI w mb base p v0 xs0 v xs av z W) {ev u : Value} {l : List En} {j : Nat} (he : EnsK W ev l) : EnsK (W.setCell ⟨p, j, none⟩ u) ev l :=
  he.kp (kp_set W p j u) fun g cs fz hg e => by
    subst e
    have h' : W.heap[g]? = some _ := h.box
    rw [hg] at h'
    cases h'
end
end Go.Proofs.YtjiilmiikejnhaaDoor
namespace Go.Proofs.YtjiilmiikejnhaaDoor
open Go.RowKit Go.Shelf Said

theorem iEntry : (Tryd.prog.info? 136).map (fun i => (i.zero, i.size, i.bytes)) = some (some (.agg #[.string ⟨#[]⟩, .int .u32 0, .bool false]), 3, 24) := by kernel_rfl
theorem ens_form {w : World} {base k : Nat} {e : TypeId} {v : Value} {xs : List Value} (h : w.ownsRow base e 3 v k xs) : ∃ ad c, v = .slice ad k c := by
  rcases h.2 with ⟨rfl, h0⟩ | ⟨g, cap, cur, rfl, _⟩
  · exact ⟨none, 0, by rw [h0]⟩
  · exact ⟨_, _, rfl⟩
theorem owns_mono {w : World} {base base' size n : Nat} {e : TypeId} {v : Value} {xs : List Value} (h : w.ownsRow base e size v n xs) (hb : base' ≤ base) : w.ownsRow base' e size v n xs := by
  refine ⟨h.1, ?_⟩
  rcases h.2 with h' | ⟨g, cap, cur, h1, h2, h3⟩
  · exact .inl h'
  · exact .inr ⟨g, cap, cur, h1, Nat.le_trans hb h2, h3⟩
theorem belowNq {B : Nat} {a w : World} (h : Below B a w) (q : Nat) : Below B a (w.drewN q) := ⟨h.os, h.tape, h.output, h.size, h.block⟩

set_option maxHeartbeats 8000000 in
set_option maxRecDepth 100000 in
theorem state_walk {w : World} {mb base d n ls : Nat} {v0 vl : Value} {xs0 : List (Value × DSt)} {l : List En} (hg : Good d l) (hlong : ∀ x ∈ l, (wd x).length ≤ 1000) (hl0 : l ≠ []) (hl : l.length ≤ 30) (hm : MkrB w mb v0) (hr : RowsI w base v0 xs0) (hb : base ≤ w.heap.size) (he : EnsK w vl l)
    (hxs : xs0.length + 1 + total d l ≤ 100000) (hfit : ∀ x ∈ xs0, Fit x.2) (hd : d ≤ 1000) (hls : ls < 18446744073709551616)
    (HS : ∀ (W : World) (v' vl' : Value) (xs' : List (Value × DSt)) (l' : List En) (ls' : Nat), Good (d + 1) l' → (∀ x ∈ l', x ∈ l) → l' ≠ [] → l'.length ≤ 30 → MkrB W mb v' → RowsI W base v' xs' → base ≤ W.heap.size → EnsK W vl' l' → xs'.length + 1 + total (d + 1) l' ≤ 100000 → (∀ x ∈ xs', Fit x.2) → ls' < 18446744073709551616 →
      Calls Tryd.prog 49 #[.pointer (some ⟨mb, 0, none⟩), vl', .int .i64 ((d + 1 : Nat) : Int), .int .u64 (ls' : Int)] W (Stated W mb base v' xs' (1 + total (d + 1) l'))) :
    Calls Tryd.prog 49 #[.pointer (some ⟨mb, 0, none⟩), vl, .int .i64 (d : Int), .int .u64 (ls : Int)] w (Stated w mb base v0 xs0 (1 + total d l)) := by
  obtain ⟨n0, hn0⟩ : ∃ n0, l.length = n0 := ⟨_, rfl⟩
  have h1 : 0 < n0 := by rw [← hn0]; exact List.length_pos_iff.2 hl0
  obtain ⟨b, o, cl, rfl⟩ : ∃ b o cl, vl = .slice (some ⟨b, o, none⟩) n0 cl := by
    obtain ⟨⟨ad, c, rfl, _, hc⟩, _⟩ := he
    obtain ⟨b, o, rfl, _⟩ := hc 0 (by omega)
    exact ⟨b, o, c, by rw [hn0]⟩
  have HE : Hid (∀ W, EnsK W (.slice (some ⟨b, o, none⟩) n0 cl) l → ∀ i, i < n0 → W.cell? ⟨b, o + i * 3, none⟩ = some (.string (enAt l i).word) ∧ W.cell? ⟨b, o + i * 3 + 1, none⟩ = some (.int .u32 ((enAt l i).weight : Int)) ∧ W.cell? ⟨b, o + i * 3 + 2, none⟩ = some (.bool (enAt l i).gone)) := Lib.hid fun W h i hi => by
    obtain ⟨⟨ad, c, e, _, hc⟩, _⟩ := h
    injection e with e1 e2 e3
    obtain ⟨b', o', e', h1, h2, h3⟩ := hc i (by omega)
    rw [← e1] at e'
    injection e' with e'
    injection e' with i1 i2 i3
    subst i1 i2
    exact ⟨h1, h2, h3⟩
  have HW : Hid (∀ i, i < n0 → (enAt l i).weight < 4294967296 ∧ d ≤ (enAt l i).word.size ∧ (enAt l i).word.size ≤ 1000) := Lib.hid fun i hi => by
    have hx := enAt_mem (l := l) (i := i) (by omega)
    obtain ⟨⟨_, _, _, hw, _⟩, _⟩ := he
    have a1 := hg.long _ hx
    have a2 := hlong _ hx
    unfold wd at a1 a2
    rw [ba_length] at a1 a2
    exact ⟨hw _ hx, a1, a2⟩
  have HG := Lib.hid (And.intro hg (And.intro hn0 (And.intro hl (And.intro hxs (And.intro hfit hls)))))
  replace HS := Lib.hid HS
  obtain ⟨p, hp⟩ : ∃ p, p = w.heap.size := ⟨_, rfl⟩
  obtain ⟨W1, hW1⟩ : ∃ W1, W1 = w.alloc (.cells #[.slice none 0 0, .bool false, .int .u64 0] 64) := ⟨_, rfl⟩
  have HI : Hid (SI w mb base p v0 xs0 v0 xs0 (.slice none 0 0) ⟨[], false, 0⟩ W1 ∧ EnsK W1 (.slice (some ⟨b, o, none⟩) n0 cl) l) := Lib.hid (by
    rw [hp, hW1]
    exact ⟨SI.start hm hr hb, he.below (below_alloc w _)⟩)
  have hl30 : n0 ≤ 30 := by omega
  clear hg hlong hl0 hn0 hl hm hr hb he hxs hfit hls
  go_enter Tryd.func49, Tryd.ntmps49
  go_upto_region 2 with fail
  rw [← hW1, ← hp]
  clear hW1 hp
  go_wp2
  go_loopw [10] (fun s10 wr => ∃ (i : Nat) (f : Bool) (ou : Nat), i ≤ n0 ∧ s10 = .int .i64 (i : Int) ∧ Hid ((SI w mb base p v0 xs0 v0 xs0 (.slice none 0 0) ⟨[], f, ou⟩ wr ∧ EnsK wr (.slice (some ⟨b, o, none⟩) n0 cl) l) ∧ ou < 18446744073709551616)) (fun s10 _ => n0 - (intOf s10).toNat)
  case atStart => exact ⟨0, false, 0, Nat.zero_le _, rfl, Lib.hid ⟨HI.out, by decide⟩⟩
  case round =>
    obtain ⟨i, f, ou, hi, rfl, HR⟩ := hrel
    by_cases hlt : i < n0
    · have d1 : decide ((i : Int) < (n0 : Int)) = true := decide_eq_true (by omega)
      have ii : (i : Int) < (n0 : Int) := by omega
      obtain ⟨x1, x2, x3⟩ := HE.out wr HR.out.1.2 i hlt
      obtain ⟨g1, g2, g3⟩ := HW.out i hlt
      have QV := Lib.hid (fun W => docValue_any (w := W) (enAt l i) g1)
      have hval : (enAt l i).value ≤ 4294967296 := En.value_le g1
      have HEi := Lib.hid (fun W h => HE.out W h i hlt)
      obtain ⟨X, hX⟩ : ∃ X, X = (enAt l i).word := ⟨_, rfl⟩
      obtain ⟨wt, hwt⟩ : ∃ wt, wt = (enAt l i).weight := ⟨_, rfl⟩
      obtain ⟨gn, hgn⟩ : ∃ gn, gn = (enAt l i).gone := ⟨_, rfl⟩
      obtain ⟨vv, hvv⟩ : ∃ vv, vv = (enAt l i).value := ⟨_, rfl⟩
      rw [← hX, ← hwt, ← hgn] at QV HEi
      rw [← hvv] at QV hval
      rw [← hX] at x1 g2 g3
      rw [← hwt] at x2 g1
      rw [← hgn] at x3
      have HV := Lib.hid (And.intro g1 hval)
      clear hX hwt hgn hvv hlt g1 hval
      have d2 : decide (i < n0) = true := by simpa using d1
      by_cases hXd : X.size = d
      · have e1 : ((X.size : Int) == (d : Int)) = true := by simp; omega
        have e2 : (X.size == d) = true := by simp; omega
        have b1 := HR.out.1.1.box.at1
        have b1f := HR.out.1.1.box.free 1
        clear hXd
        go_upto_region 7 with fail
        obtain ⟨W2, hW2⟩ : ∃ W2, W2 = wr.setCell ⟨p, 1, none⟩ (.bool true) := ⟨_, rfl⟩
        rw [← hW2]
        have HI2 : Hid (SI w mb base p v0 xs0 v0 xs0 (.slice none 0 0) ⟨[], true, ou⟩ W2 ∧ EnsK W2 (.slice (some ⟨b, o, none⟩) n0 cl) l) := Lib.hid (by
          rw [hW2]
          exact ⟨HR.out.1.1.setbox (z' := ⟨[], true, ou⟩) (HR.out.1.1.box.set1 true) rfl, HR.out.1.1.entsSet HR.out.1.2⟩)
        obtain ⟨y1, y2, y3⟩ := HEi.out W2 HI2.out.2
        obtain ⟨uo, huo⟩ : ∃ uo : Nat, IntKind.u64.wrap ((vv : Int) - (ls : Int)) = (uo : Int) ∧ uo < 18446744073709551616 := by
          refine ⟨(IntKind.u64.wrap ((vv : Int) - (ls : Int))).toNat, ?_⟩
          rw [IntKind.wrap_u64]
          omega
        have hw1 := huo.1
        have HU := Lib.hid huo.2
        clear hW2 huo x1 x2 x3 b1 b1f
        go_wp2_with (go_at_call 71; (with_reducible refine (QV.out _).mono ?_); rintro e w3 ⟨rfl, hb3⟩; have HI3 := Lib.hid (And.intro (HI2.out.1.below hb3) (HI2.out.2.below hb3)); have b2 := HI3.out.1.box.at2; have b2f := HI3.out.1.box.free 2; clear hb3)
        exact ⟨⟨i + 1, true, uo, by omega, by go_num, Lib.hid ⟨⟨HI3.out.1.setbox (z' := ⟨[], true, uo⟩) (HI3.out.1.box.set2 uo) rfl, HI3.out.1.entsSet HI3.out.2⟩, HU.out⟩⟩, by simp [intOf]; omega⟩
      · have e1 : ((X.size : Int) == (d : Int)) = false := by simp; omega
        have e2 : (X.size == d) = false := by simp; omega
        clear hXd
        go_wp2
        exact ⟨⟨i + 1, f, ou, by omega, by go_num, HR⟩, by simp [intOf]; omega⟩
    · have d1 : decide ((i : Int) < (n0 : Int)) = false := decide_eq_false (by omega)
      have d2 : decide (i < n0) = false := decide_eq_false hlt
      clear hlt
      go_wp2
      go_loopw [11] (fun s11 wr => ∃ (i : Nat) (v : Value) (xs : List (Value × DSt)) (av : Value) (arcs : List DArc) (B : List UInt8), i ≤ n0 ∧ s11 = .int .i64 (i : Int) ∧ Hid ((SI w mb base p v0 xs0 v xs av ⟨arcs, f, ou⟩ wr ∧ EnsK wr (.slice (some ⟨b, o, none⟩) n0 cl) l) ∧ BI d i l B ∧ arcs.map (·.b) = B.map UInt8.toNat ∧ arcs.length ≤ i ∧ (∀ a ∈ arcs, a.ok) ∧ xs.length ≤ xs0.length + Plain.behind d B (l.map wd))) (fun s11 _ => n0 - (intOf s11).toNat)
      case atStart => exact ⟨0, v0, xs0, .slice none 0 0, [], [], Nat.zero_le _, rfl, Lib.hid ⟨HR.out.1, BI.nil _ _ _, rfl, Nat.le_refl _, fun _ h => (by cases h), Nat.le_add_right _ _⟩⟩
      case round =>
        clear hi
        obtain ⟨i, v, xs, av, arcs, B, hi, rfl, HJ⟩ := hrel
        obtain ⟨wo, rfl⟩ : ∃ wo : World, wo = wr := ⟨_, rfl⟩
        by_cases hlt : i < n0
        · have d1 : decide ((i : Int) < (n0 : Int)) = true := decide_eq_true (by omega)
          have d2 : decide (i < n0) = true := decide_eq_true hlt
          have ii : (i : Int) < (n0 : Int) := by omega
          obtain ⟨x1, x2, x3⟩ := HE.out wo HJ.out.1.2 i hlt
          obtain ⟨g1, g2, g3⟩ := HW.out i hlt
          have HEi := Lib.hid (fun W h => HE.out W h i hlt)
          obtain ⟨X, hX⟩ : ∃ X, X = (enAt l i).word := ⟨_, rfl⟩
          rw [← hX] at HEi x1 g2 g3
          have HX := Lib.hid (And.intro hX g1)
          clear hX g1 x2 x3 hlt
          have skip : Hid (∀ W, Below wo.heap.size wo W → (SI w mb base p v0 xs0 v xs av ⟨arcs, f, ou⟩ W ∧ EnsK W (.slice (some ⟨b, o, none⟩) n0 cl) l) ∧ BI d (i + 1) l B ∧ arcs.map (·.b) = B.map UInt8.toNat ∧ arcs.length ≤ i + 1 ∧ (∀ a ∈ arcs, a.ok) ∧ xs.length ≤ xs0.length + Plain.behind d B (l.map wd)) := Lib.hid fun W hb => by
            obtain ⟨⟨a1, a2⟩, a3, a4, a5, a6, a7⟩ := HJ.out
            exact ⟨⟨a1.below hb, a2.below hb⟩, a3.skip, a4, by omega, a6, a7⟩
          by_cases hXd : X.size = d
          · have e1 : ((X.size : Int) == (d : Int)) = true := by simp; omega
            have e2 : (X.size == d) = true := by simp; omega
            clear hXd
            go_wp2
            go_quiet (fail)
            go_wp2
            exact ⟨⟨i + 1, v, xs, av, arcs, B, by omega, by go_num, Lib.hid (skip.out _ (belowNq (Below.refl _ _) _))⟩, by simp [intOf]; omega⟩
          · have e1 : ((X.size : Int) == (d : Int)) = false := by simp; omega
            have e2 : (X.size == d) = false := by simp; omega
            have hdX : d < X.size := by omega
            clear hXd
            have hcd : (wd (enAt l i))[d]? = some (X[d]'hdX) := by
              unfold wd
              have hlen : d < X.data.toList.length := by rw [ba_length]; exact hdX
              have h1 := byte_getD X d hdX
              rw [List.getD_eq_getElem?_getD, List.getElem?_eq_getElem hlen] at h1
              rw [← HX.out.1, List.getElem?_eq_getElem hlen]
              exact congrArg some h1
            obtain ⟨c, hc⟩ : ∃ c, X[d]'hdX = c := ⟨_, rfl⟩
            rw [hc] at hcd
            rcases List.eq_nil_or_concat arcs with rfl | ⟨A, a, hAa⟩
            · have b0 := HJ.out.1.1.box.at0
              obtain ⟨eav, qav, hav⟩ := HJ.out.1.1.arc.form
              rw [show (⟨[], f, ou⟩ : DSt).arcs.length = 0 from rfl] at hav
              subst hav
              have HC := Lib.hid (And.intro hc hcd)
              have HNB : Hid (c ∉ B) := Lib.hid (HJ.out.2.1.new (by rw [HG.out.2.1]; exact of_decide_eq_true d2) hcd (by
                have h := HJ.out.2.2.1
                cases B with
                | nil => intro h; cases h
                | cons x B => cases h))
              clear hc hcd
              obtain ⟨arcs, harcs⟩ : ∃ z : List DArc, z = [] := ⟨_, rfl⟩
              rw [← harcs] at HJ skip
              have HLN : Hid (arcs.length = 0) := Lib.hid (by rw [harcs]; rfl)
              clear harcs
              go_wp2
              go_quiet (fail)
              clear b0 x1
              go_wp2
              go_loopw [12, 13] (fun s12 s13 wr => ∃ (k m : Nat) (oa : Option Addr) (oc : Nat), i ≤ k ∧ k ≤ n0 ∧ s12 = .slice oa m oc ∧ s13 = .int .i64 (k : Int) ∧ Hid (m = (own d i k c l).length ∧ EnsO wr wo.heap.size (.slice oa m oc) (own d i k c l)) ∧ Hid (Below wo.heap.size wo wr)) (fun _ s13 _ => n0 - (intOf s13).toNat)
              case atStart => exact ⟨i, 0, none, 0, Nat.le_refl _, by omega, rfl, rfl, Lib.hid (by rw [own_start]; exact ⟨rfl, World.ownsRow_nil _ _ _ _, fun _ h => (by cases h)⟩), Lib.hid (belowNq (Below.refl _ _) _)⟩
              case round =>
                obtain ⟨k, m, oa, oc, hik, hk, rfl, rfl, HO, HB⟩ := hrel
                by_cases hkn : k < n0
                · have d3 : decide ((k : Int) < (n0 : Int)) = true := decide_eq_true (by omega)
                  have d4 : decide (k < n0) = true := decide_eq_true hkn
                  have ik : (k : Int) < (n0 : Int) := by omega
                  obtain ⟨x1, -, -⟩ := HEi.out wr (HJ.out.1.2.below HB.out)
                  obtain ⟨y1, y2, y3⟩ := HE.out wr (HJ.out.1.2.below HB.out) k hkn
                  obtain ⟨g4, g5, g6⟩ := HW.out k hkn
                  obtain ⟨Y, hY⟩ : ∃ Y, Y = (enAt l k).word := ⟨_, rfl⟩
                  obtain ⟨wt, hwt⟩ : ∃ wt, wt = (enAt l k).weight := ⟨_, rfl⟩
                  obtain ⟨gn, hgn⟩ : ∃ gn, gn = (enAt l k).gone := ⟨_, rfl⟩
                  rw [← hY] at y1 g5 g6
                  rw [← hwt] at y2
                  rw [← hgn] at y3
                  have HY := Lib.hid (And.intro hY (And.intro hwt (And.intro hgn g4)))
                  clear hY hwt hgn g4
                  by_cases hYd : Y.size = d
                  · have f1 : decide ((d : Int) < (Y.size : Int)) = false := decide_eq_false (by omega)
                    have f2 : decide (d < Y.size) = false := decide_eq_false (by omega)
                    have HO2 : Hid (own d i (k + 1) c l = own d i k c l) := Lib.hid (own_out hik (by rw [HG.out.2.1]; exact hkn) (by
                      unfold wd
                      rw [← HY.out.1, List.getElem?_eq_none (by rw [ba_length]; omega)]
                      intro h
                      cases h))
                    clear hYd hkn
                    go_wp2
                    go_quiet (fail)
                    go_wp2
                    exact ⟨⟨k + 1, m, oa, oc, by omega, by omega, rfl, by go_num, Lib.hid (by rw [HO2.out]; exact ⟨HO.out.1, owns_same HO.out.2.1 fun _ _ => rfl, HO.out.2.2⟩), Lib.hid (belowNq HB.out _)⟩, by simp [intOf]; omega⟩
                  · have hdY : d < Y.size := by omega
                    have f1 : decide ((d : Int) < (Y.size : Int)) = true := decide_eq_true (by omega)
                    have f2 : decide (d < Y.size) = true := decide_eq_true hdY
                    have hyd : (wd (enAt l k))[d]? = some (Y[d]'hdY) := by
                      unfold wd
                      have hlen : d < Y.data.toList.length := by rw [ba_length]; exact hdY
                      have h1 := byte_getD Y d hdY
                      rw [List.getD_eq_getElem?_getD, List.getElem?_eq_getElem hlen] at h1
                      rw [← HY.out.1, List.getElem?_eq_getElem hlen]
                      exact congrArg some h1
                    clear hYd
                    by_cases hyc : Y[d]'hdY = c
                    · have r1 : (((Y[d]'hdY).toNat : Int) == ((X[d]'hdX).toNat : Int)) = true := by rw [HC.out.1, hyc]; simp
                      have r2 : ((Y[d]'hdY).toNat == (X[d]'hdX).toNat) = true := by rw [HC.out.1, hyc]; simp
                      have HO2 : Hid (own d i (k + 1) c l = own d i k c l ++ [enAt l k]) := Lib.hid (own_in hik (by rw [HG.out.2.1]; exact hkn) (by rw [hyd, hyc]))
                      clear hyd hyc hkn
                      go_wp2
                      go_quiet (fail)
                      have hbx := (HJ.out.1.1.below HB.out).box
                      have HP := Lib.hid (And.intro (show (Value.slice oa m oc).ownBlock ≠ some p from fun e => by
                          have h1 := (HO.out.2.1.lt p e).1
                          have h2 := HJ.out.1.1.box.lt
                          omega) (And.intro hbx.at0 (And.intro (hbx.free 0) hbx.lt)))
                      clear hbx
                      have hm30 : m ≤ 30 := by have h1 := HO.out.1; have h2 := own_length d i k c l; omega
                      go_wp2_with (at_builtin; refine wpList_append_row (w2 := _) (vs := .slice oa m oc) rfl (.tmp 109) (.tmp 114) rfl rfl Tryd.underlying69 iEntry rfl (by decide) wo.heap.size p 0 _ m (ensC (own d i k c l)) [.string Y, .int .u32 (wt : Int), .bool gn] _ rfl rfl (heap_alloc_new _ _) (below_alloc _ _) (by have h := HO.out.2.1; rw [← HO.out.1] at h; exact owns_same h fun _ _ => rfl) (by omega) HB.out.size rfl (by intro u hu; simp at hu; rcases hu with rfl | rfl | rfl <;> rfl) HP.out.1 HP.out.2.1 HP.out.2.2.1 HP.out.2.2.2 ?_; intro a5 n5 c5 w5 hA5 r5 r6; have HA5 := Lib.hid hA5; clear hA5 r5 r6)
                      have hA5 := HA5.out
                      obtain ⟨q5, q6, q7, -, -⟩ := hA5
                      obtain ⟨a6, c6, e6⟩ := ens_form q5
                      injection e6 with i1 i2 i3
                      subst i1 i2 i3
                      have HW5 : Hid (Below wo.heap.size wo w5) := Lib.hid ((belowNq HB.out _).trans (q6.to HB.out.size fun g e => (HO.out.2.1.lt g e).1))
                      exact ⟨⟨k + 1, m + 1, a5, c5, by omega, by omega, rfl, by go_num, Lib.hid (by
                        rw [HO2.out, List.length_append, List.length_singleton, ← HO.out.1]
                        refine ⟨rfl, ?_, fun x hx => ?_⟩
                        · rw [List.length_append, List.length_singleton, ← HO.out.1, ensC_snoc, show enC (enAt l k) = [.string Y, .int .u32 (wt : Int), .bool gn] by rw [HY.out.1, HY.out.2.1, HY.out.2.2.1]; rfl]
                          exact q5
                        · rcases List.mem_append.1 hx with hx | hx
                          · exact HO.out.2.2 x hx
                          · rw [List.mem_singleton.1 hx]
                            exact HY.out.2.2.2), HW5⟩, by simp [intOf]; omega⟩
                    · have r1 : (((Y[d]'hdY).toNat : Int) == ((X[d]'hdX).toNat : Int)) = false := by
                        rw [HC.out.1, beq_eq_false_iff_ne]
                        exact fun h => hyc (UInt8.toNat_inj.1 (Int.ofNat_inj.1 h))
                      have r2 : ((Y[d]'hdY).toNat == (X[d]'hdX).toNat) = false := by
                        rw [HC.out.1, beq_eq_false_iff_ne]
                        exact fun h => hyc (UInt8.toNat_inj.1 h)
                      have HO2 : Hid (own d i (k + 1) c l = own d i k c l) := Lib.hid (own_out hik (by rw [HG.out.2.1]; exact hkn) (by
                        rw [hyd]
                        intro h
                        injection h with h
                        exact hyc h))
                      clear hyd hyc hkn
                      go_wp2
                      go_quiet (fail)
                      go_wp2
                      exact ⟨⟨k + 1, m, oa, oc, by omega, by omega, rfl, by go_num, Lib.hid (by rw [HO2.out]; exact ⟨HO.out.1, owns_same HO.out.2.1 fun _ _ => rfl, HO.out.2.2⟩), Lib.hid (belowNq HB.out _)⟩, by simp [intOf]; omega⟩
                · have hkn' : k = n0 := by omega
                  have d3 : decide ((k : Int) < (n0 : Int)) = false := decide_eq_false (by omega)
                  have d4 : decide (k < n0) = false := decide_eq_false hkn
                  have HK := Lib.hid hkn'
                  clear hkn hkn'
                  have hown0 : own d i k c l ≠ [] := own_first (by have := of_decide_eq_true d2; have := HK.out; omega) (by rw [HG.out.2.1]; exact of_decide_eq_true d2) HC.out.2
                  have hEK := HO.out.2.toK
                  have QL := Lib.hid (docLeast_any (w := wr) hEK.1 hown0 (by have h1 := HO.out.1; have h2 := own_length d i k c l; omega))
                  have HN0 := Lib.hid hown0
                  clear hown0 hEK
                  go_upto_region 19 with (go_at_call 48; (with_reducible refine (QL.out).mono ?_); rintro e w5 ⟨⟨u, rfl, hu, -⟩, hb5⟩; have HU := Lib.hid hu; have HB5 := Lib.hid (HB.out.trans (hb5.mono HB.out.size)); have HO5 := Lib.hid (show EnsO w5 wo.heap.size _ _ from ⟨owns_same HO.out.2.1 fun g hg => hb5.block g (HO.out.2.1.lt g hg).2, HO.out.2.2⟩); clear hu hb5)
                  have S5 := Lib.hid (And.intro (HJ.out.1.1.below HB5.out) (HJ.out.1.2.below HB5.out))
                  have hxX := (HEi.out w5 S5.out.2).1
                  have b5 := S5.out.1.box.at0
                  obtain ⟨uo, huo⟩ : ∃ uo : Nat, IntKind.u64.wrap ((u : Int) - (ls : Int)) = (uo : Int) ∧ uo < 18446744073709551616 := by
                    refine ⟨(IntKind.u64.wrap ((u : Int) - (ls : Int))).toNat, ?_⟩
                    rw [IntKind.wrap_u64]
                    omega
                  have hw1 := huo.1
                  have HUO := Lib.hid huo.2
                  have wd1 : IntKind.i64.wrap ((d : Int) + 1) = (d : Int) + 1 := IntWalk.i64_in _ (by omega)
                  have hcount := count_own (d := d) (i := i) (k := k) (b := c) (l := l) HN0.out
                  have hmore := Plain.behind_more (d := d) HNB.out (l.map wd)
                  have hbt := behind_total d (B ++ [c]) l
                  have QS : Hid (∀ W, Below w5.heap.size w5 W → Calls Tryd.prog 49 #[.pointer (some ⟨mb, 0, none⟩), .slice oa m oc, .int .i64 ((d : Int) + 1), .int .u64 (u : Int)] W (Stated W mb base v xs (1 + total (d + 1) (own d i k c l)))) := Lib.hid fun W hbW => by
                    have hs := S5.out.1.below hbW
                    refine HS.out W v (.slice oa m oc) xs (own d i k c l) u (HG.out.1.own i k c) (fun x hx => (own_mem hx).1) HN0.out (by have h2 := own_length d i k c l; omega) hs.mkr hs.rows (Nat.le_trans hs.hb hs.kp.size) ((HO5.out.toK).below hbW) (by
                      have h1 := HJ.out.2.2.2.2.2
                      have h4 := HG.out.2.2.2.1
                      omega) (fun x hx => ?_) (by have := HU.out; omega)
                    rcases hs.news x hx with h | h
                    · exact HG.out.2.2.2.2.1 x h
                    · exact h.1
                  have HCM := Lib.hid (And.intro hcount hmore)
                  clear huo hcount hmore hbt
                  have FIN : Hid (∀ (w6 w7 : World) (v6 : Value) (xs6 : List (Value × DSt)) (ci : Nat) (av7 : Value), (SI w mb base p v0 xs0 v6 xs6 (.slice eav 0 qav) ⟨arcs, f, ou⟩ w6 ∧ EnsK w6 (.slice (some ⟨b, o, none⟩) n0 cl) l ∧ ci < xs6.length ∧ xs6.length ≤ xs.length + (1 + total (d + 1) (own d i k c l))) →
                      Appd w6 w.heap.size 66 (.slice eav 0 qav) (0 + 1) (arcsC arcs ++ arcC ⟨(X[d]'hdX).toNat, uo, (ci : Int)⟩) p 0 (.slice eav 0 qav) av7 w7 →
                      ((SI w mb base p v0 xs0 v6 xs6 av7 ⟨arcs ++ [⟨(X[d]'hdX).toNat, uo, (ci : Int)⟩], f, ou⟩ (w7.setCell ⟨p, 0, none⟩ av7) ∧ EnsK (w7.setCell ⟨p, 0, none⟩ av7) (.slice (some ⟨b, o, none⟩) n0 cl) l) ∧ BI d (i + 1) l (B ++ [c]) ∧ (arcs ++ [⟨(X[d]'hdX).toNat, uo, (ci : Int)⟩] : List DArc).map (·.b) = (B ++ [c]).map UInt8.toNat ∧ (arcs ++ [⟨(X[d]'hdX).toNat, uo, (ci : Int)⟩] : List DArc).length ≤ i + 1 ∧ (∀ a ∈ (arcs ++ [⟨(X[d]'hdX).toNat, uo, (ci : Int)⟩] : List DArc), a.ok) ∧ xs6.length ≤ xs0.length + Plain.behind d (B ++ [c]) (l.map wd))) := Lib.hid fun w6 w7 v6 xs6 ci av7 hS hA => by
                    obtain ⟨S7, hk7⟩ := SI.more (a := ⟨(X[d]'hdX).toNat, uo, (ci : Int)⟩) hS.1 (by rw [show (⟨arcs, f, ou⟩ : DSt).arcs.length = 0 from HLN.out]; exact hA)
                    have E7 := hS.1.entsMore hS.2.1 hk7
                    obtain ⟨j1, j2, j3, j4, j5, j6⟩ := HJ.out
                    have h3 := hS.2.2.2
                    have h6 := HCM.out
                    have h2 := hS.2.2.1
                    have h4 := HG.out.2.2.2.1
                    have h5 := behind_total d (B ++ [c]) l
                    refine ⟨⟨S7, E7⟩, j2.add HG.out.1 (by rw [HG.out.2.1]; exact of_decide_eq_true d2) HC.out.2, by rw [List.map_append, List.map_append, j3, HC.out.1]; rfl, by rw [List.length_append, List.length_singleton]; omega, fun a ha => ?_, by omega⟩
                    rcases List.mem_append.1 ha with ha | ha
                    · exact j5 a ha
                    · rw [List.mem_singleton.1 ha]
                      exact ⟨(X[d]'hdX).toNat_lt, HUO.out, by show (-9223372036854775808 : Int) ≤ (ci : Int); omega, by show (ci : Int) < 9223372036854775808; omega⟩
                  go_region_law (first
                    | (refine step_call_ok (f := 49) (args := #[.pointer (some ⟨mb, 0, none⟩), .slice oa m oc, .int .i64 ((d : Int) + 1), .int .u64 (u : Int)]) rfl (by first | (go_simp; done) | (go_simp; rfl)) (QS.out _ (by first | exact Below.refl _ _ | exact (Below.refl _ _).drew | exact belowNq (Below.refl _ _) _)) ?_
                       intro e' w6 hSt
                       obtain ⟨ci, v6, xs6, rfl, hci, hle, hSI6, hk6⟩ := SI.child (S5.out.1.below (by first | exact Below.refl _ _ | exact (Below.refl _ _).drew | exact belowNq (Below.refl _ _) _)) hSt
                       have hek := (S5.out.2.below (by first | exact Below.refl _ _ | exact (Below.refl _ _).drew | exact belowNq (Below.refl _ _) _)).stated (S5.out.1.below (by first | exact Below.refl _ _ | exact (Below.refl _ _).drew | exact belowNq (Below.refl _ _) _)).mkr (S5.out.1.below (by first | exact Below.refl _ _ | exact (Below.refl _ _).drew | exact belowNq (Below.refl _ _) _)).rows hk6
                       refine ⟨_, rfl, ?_⟩
                       have z0 := hSI6.box.at0
                       have z1 : ∀ ob, (w6.alloc ob).cell? ⟨p, 0, none⟩ = some (.slice eav 0 qav) := fun ob => by rw [(below_alloc w6 ob).cell (p := ⟨p, 0, none⟩) hSI6.box.lt]; exact hSI6.box.at0
                       have z2 := (HEi.out w6 hek).1
                       have S6 := Lib.hid (And.intro hSI6 (And.intro hek (And.intro hci hle)))
                       clear hSt hSI6 hek hk6 hci hle)
                    | (refine step_append_row (w2 := w6) (vs := .slice eav 0 qav) rfl (.tmp 119) (.tmp 137) rfl rfl Tryd.underlying62 iArc rfl (by decide) w.heap.size p 0 (.slice eav 0 qav) 0 (arcsC arcs) (arcC ⟨(X[d]'hdX).toNat, uo, (ci : Int)⟩) w6.heap.size rfl rfl (heap_alloc_new w6 _) (below_alloc w6 _) (by have h := S6.out.1.arc; unfold ARow at h; rw [show (⟨arcs, f, ou⟩ : DSt).arcs.length = 0 from HLN.out] at h; exact h) (by omega) S6.out.1.kp.size rfl (by intro u hu; simp [arcC] at hu; rcases hu with rfl | rfl | rfl <;> rfl) S6.out.1.arcp S6.out.1.box.at0 (S6.out.1.box.free 0) S6.out.1.box.lt ?_
                       intro a7 n7 c7 w7 hA7 r7 r8
                       have HA7 := Lib.hid hA7
                       clear hA7))
                  all_goals (
                    go_wp2
                    exact ⟨⟨i + 1, v6, xs6, _, _, _, by omega, by go_num, Lib.hid (FIN.out _ _ _ _ _ _ S6.out HA7.out)⟩, by simp [intOf]; omega⟩)
            · rw [List.concat_eq_append] at hAa
              subst hAa
              obtain ⟨eav, qav, hav⟩ := HJ.out.1.1.arc.form
              have hcells := HJ.out.1.1.arc.arcs
              obtain ⟨ad', c9, e', hcells⟩ := hcells
              obtain ⟨ga9, oa9, had, hc0, -, -⟩ := hcells A.length (by simp)
              rw [show (⟨A ++ [a], f, ou⟩ : DSt).arcs.length = A.length + 1 by simp] at hav e'
              rw [show arcAt (⟨A ++ [a], f, ou⟩ : DSt).arcs A.length = a by simp [arcAt]] at hc0
              subst had
              subst e'
              clear hcells hav
              have hti := HJ.out.2.2.2.1
              rw [List.length_append, List.length_singleton] at hti
              obtain ⟨t, ht⟩ : ∃ t, A.length = t := ⟨_, rfl⟩
              rw [ht] at hc0 HJ hti
              obtain ⟨ab, hab⟩ : ∃ ab, a.b = ab := ⟨_, rfl⟩
              rw [hab] at hc0
              have b0 := HJ.out.1.1.box.at0
              have wt : IntKind.i64.wrap (t : Int) = (t : Int) := IntWalk.i64_in _ (by omega)
              have l0 : decide ((0 : Int) < (t : Int) + 1) = true := decide_eq_true (by omega)
              have l1 : decide ((0 : Int) < ((t + 1 : Nat) : Int)) = true := decide_eq_true (by omega)
              have l2 : decide (0 < t + 1) = true := decide_eq_true (by omega)
              have it : (t : Int) < (t : Int) + 1 := by omega
              obtain ⟨arcs, harcs⟩ : ∃ arcs, arcs = A ++ [a] := ⟨_, rfl⟩
              rw [← harcs] at HJ skip
              by_cases hlast : ab = c.toNat
              · have q1 : ((ab : Int) == ((X[d]'hdX).toNat : Int)) = true := by rw [hc, hlast]; simp
                have q2 : (ab == (X[d]'hdX).toNat) = true := by rw [hc, hlast]; simp
                clear hc hcd hlast ht hab harcs
                go_wp2
                go_quiet (fail)
                go_wp2
                exact ⟨⟨i + 1, v, xs, _, arcs, B, by omega, by go_num, Lib.hid (skip.out _ (belowNq (Below.refl _ _) _))⟩, by simp [intOf]; omega⟩
              · have q1 : ((ab : Int) == ((X[d]'hdX).toNat : Int)) = false := by rw [hc]; simp; omega
                have q2 : (ab == (X[d]'hdX).toNat) = false := by rw [hc]; simp; omega
                have HNB : Hid (c ∉ B) := Lib.hid (HJ.out.2.1.new (by rw [HG.out.2.1]; exact of_decide_eq_true d2) hcd (by
                  have h := HJ.out.2.2.1
                  rw [harcs, List.map_append] at h
                  intro hz
                  have h2 := congrArg List.getLast? h
                  rw [List.getLast?_map, hz] at h2
                  simp at h2
                  exact hlast (by rw [← hab]; exact h2)))
                have HC := Lib.hid (And.intro hc hcd)
                have HLN : Hid (arcs.length = t + 1) := Lib.hid (by rw [harcs, List.length_append, List.length_singleton, ht])
                clear hc hcd hlast ht hab harcs
                go_wp2
                go_quiet (fail)
                clear b0 x1 hc0 q1 q2 l0 l1 l2 it wt
                go_wp2
                go_loopw [12, 13] (fun s12 s13 wr => ∃ (k m : Nat) (oa : Option Addr) (oc : Nat), i ≤ k ∧ k ≤ n0 ∧ s12 = .slice oa m oc ∧ s13 = .int .i64 (k : Int) ∧ Hid (m = (own d i k c l).length ∧ EnsO wr wo.heap.size (.slice oa m oc) (own d i k c l)) ∧ Hid (Below wo.heap.size wo wr)) (fun _ s13 _ => n0 - (intOf s13).toNat)
                case atStart => exact ⟨i, 0, none, 0, Nat.le_refl _, by omega, rfl, rfl, Lib.hid (by rw [own_start]; exact ⟨rfl, World.ownsRow_nil _ _ _ _, fun _ h => (by cases h)⟩), Lib.hid (belowNq (Below.refl _ _) _)⟩
                case round =>
                  obtain ⟨k, m, oa, oc, hik, hk, rfl, rfl, HO, HB⟩ := hrel
                  by_cases hkn : k < n0
                  · have d3 : decide ((k : Int) < (n0 : Int)) = true := decide_eq_true (by omega)
                    have d4 : decide (k < n0) = true := decide_eq_true hkn
                    have ik : (k : Int) < (n0 : Int) := by omega
                    obtain ⟨x1, -, -⟩ := HEi.out wr (HJ.out.1.2.below HB.out)
                    obtain ⟨y1, y2, y3⟩ := HE.out wr (HJ.out.1.2.below HB.out) k hkn
                    obtain ⟨g4, g5, g6⟩ := HW.out k hkn
                    obtain ⟨Y, hY⟩ : ∃ Y, Y = (enAt l k).word := ⟨_, rfl⟩
                    obtain ⟨wt, hwt⟩ : ∃ wt, wt = (enAt l k).weight := ⟨_, rfl⟩
                    obtain ⟨gn, hgn⟩ : ∃ gn, gn = (enAt l k).gone := ⟨_, rfl⟩
                    rw [← hY] at y1 g5 g6
                    rw [← hwt] at y2
                    rw [← hgn] at y3
                    have HY := Lib.hid (And.intro hY (And.intro hwt (And.intro hgn g4)))
                    clear hY hwt hgn g4
                    by_cases hYd : Y.size = d
                    · have f1 : decide ((d : Int) < (Y.size : Int)) = false := decide_eq_false (by omega)
                      have f2 : decide (d < Y.size) = false := decide_eq_false (by omega)
                      have HO2 : Hid (own d i (k + 1) c l = own d i k c l) := Lib.hid (own_out hik (by rw [HG.out.2.1]; exact hkn) (by
                        unfold wd
                        rw [← HY.out.1, List.getElem?_eq_none (by rw [ba_length]; omega)]
                        intro h
                        cases h))
                      clear hYd hkn
                      go_wp2
                      go_quiet (fail)
                      go_wp2
                      exact ⟨⟨k + 1, m, oa, oc, by omega, by omega, rfl, by go_num, Lib.hid (by rw [HO2.out]; exact ⟨HO.out.1, owns_same HO.out.2.1 fun _ _ => rfl, HO.out.2.2⟩), Lib.hid (belowNq HB.out _)⟩, by simp [intOf]; omega⟩
                    · have hdY : d < Y.size := by omega
                      have f1 : decide ((d : Int) < (Y.size : Int)) = true := decide_eq_true (by omega)
                      have f2 : decide (d < Y.size) = true := decide_eq_true hdY
                      have hyd : (wd (enAt l k))[d]? = some (Y[d]'hdY) := by
                        unfold wd
                        have hlen : d < Y.data.toList.length := by rw [ba_length]; exact hdY
                        have h1 := byte_getD Y d hdY
                        rw [List.getD_eq_getElem?_getD, List.getElem?_eq_getElem hlen] at h1
                        rw [← HY.out.1, List.getElem?_eq_getElem hlen]
                        exact congrArg some h1
                      clear hYd
                      by_cases hyc : Y[d]'hdY = c
                      · have r1 : (((Y[d]'hdY).toNat : Int) == ((X[d]'hdX).toNat : Int)) = true := by rw [HC.out.1, hyc]; simp
                        have r2 : ((Y[d]'hdY).toNat == (X[d]'hdX).toNat) = true := by rw [HC.out.1, hyc]; simp
                        have HO2 : Hid (own d i (k + 1) c l = own d i k c l ++ [enAt l k]) := Lib.hid (own_in hik (by rw [HG.out.2.1]; exact hkn) (by rw [hyd, hyc]))
                        clear hyd hyc hkn
                        go_wp2
                        go_quiet (fail)
                        have hbx := (HJ.out.1.1.below HB.out).box
                        have HP := Lib.hid (And.intro (show (Value.slice oa m oc).ownBlock ≠ some p from fun e => by
                            have h1 := (HO.out.2.1.lt p e).1
                            have h2 := HJ.out.1.1.box.lt
                            omega) (And.intro hbx.at0 (And.intro (hbx.free 0) hbx.lt)))
                        clear hbx
                        have hm30 : m ≤ 30 := by have h1 := HO.out.1; have h2 := own_length d i k c l; omega
                        go_wp2_with (at_builtin; refine wpList_append_row (w2 := _) (vs := .slice oa m oc) rfl (.tmp 109) (.tmp 114) rfl rfl Tryd.underlying69 iEntry rfl (by decide) wo.heap.size p 0 _ m (ensC (own d i k c l)) [.string Y, .int .u32 (wt : Int), .bool gn] _ rfl rfl (heap_alloc_new _ _) (below_alloc _ _) (by have h := HO.out.2.1; rw [← HO.out.1] at h; exact owns_same h fun _ _ => rfl) (by omega) HB.out.size rfl (by intro u hu; simp at hu; rcases hu with rfl | rfl | rfl <;> rfl) HP.out.1 HP.out.2.1 HP.out.2.2.1 HP.out.2.2.2 ?_; intro a5 n5 c5 w5 hA5 r5 r6; have HA5 := Lib.hid hA5; clear hA5 r5 r6)
                        have hA5 := HA5.out
                        obtain ⟨q5, q6, q7, -, -⟩ := hA5
                        obtain ⟨a6, c6, e6⟩ := ens_form q5
                        injection e6 with i1 i2 i3
                        subst i1 i2 i3
                        have HW5 : Hid (Below wo.heap.size wo w5) := Lib.hid ((belowNq HB.out _).trans (q6.to HB.out.size fun g e => (HO.out.2.1.lt g e).1))
                        exact ⟨⟨k + 1, m + 1, a5, c5, by omega, by omega, rfl, by go_num, Lib.hid (by
                          rw [HO2.out, List.length_append, List.length_singleton, ← HO.out.1]
                          refine ⟨rfl, ?_, fun x hx => ?_⟩
                          · rw [List.length_append, List.length_singleton, ← HO.out.1, ensC_snoc, show enC (enAt l k) = [.string Y, .int .u32 (wt : Int), .bool gn] by rw [HY.out.1, HY.out.2.1, HY.out.2.2.1]; rfl]
                            exact q5
                          · rcases List.mem_append.1 hx with hx | hx
                            · exact HO.out.2.2 x hx
                            · rw [List.mem_singleton.1 hx]
                              exact HY.out.2.2.2), HW5⟩, by simp [intOf]; omega⟩
                      · have r1 : (((Y[d]'hdY).toNat : Int) == ((X[d]'hdX).toNat : Int)) = false := by
                          rw [HC.out.1, beq_eq_false_iff_ne]
                          exact fun h => hyc (UInt8.toNat_inj.1 (Int.ofNat_inj.1 h))
                        have r2 : ((Y[d]'hdY).toNat == (X[d]'hdX).toNat) = false := by
                          rw [HC.out.1, beq_eq_false_iff_ne]
                          exact fun h => hyc (UInt8.toNat_inj.1 h)
                        have HO2 : Hid (own d i (k + 1) c l = own d i k c l) := Lib.hid (own_out hik (by rw [HG.out.2.1]; exact hkn) (by
                          rw [hyd]
                          intro h
                          injection h with h
                          exact hyc h))
                        clear hyd hyc hkn
                        go_wp2
                        go_quiet (fail)
                        go_wp2
                        exact ⟨⟨k + 1, m, oa, oc, by omega, by omega, rfl, by go_num, Lib.hid (by rw [HO2.out]; exact ⟨HO.out.1, owns_same HO.out.2.1 fun _ _ => rfl, HO.out.2.2⟩), Lib.hid (belowNq HB.out _)⟩, by simp [intOf]; omega⟩
                  · have hkn' : k = n0 := by omega
                    have d3 : decide ((k : Int) < (n0 : Int)) = false := decide_eq_false (by omega)
                    have d4 : decide (k < n0) = false := decide_eq_false hkn
                    have HK := Lib.hid hkn'
                    clear hkn hkn'
                    have hown0 : own d i k c l ≠ [] := own_first (by have := of_decide_eq_true d2; have := HK.out; omega) (by rw [HG.out.2.1]; exact of_decide_eq_true d2) HC.out.2
                    have hEK := HO.out.2.toK
                    have QL := Lib.hid (docLeast_any (w := wr) hEK.1 hown0 (by have h1 := HO.out.1; have h2 := own_length d i k c l; omega))
                    have HN0 := Lib.hid hown0
                    clear hown0 hEK
                    go_upto_region 19 with (go_at_call 48; (with_reducible refine (QL.out).mono ?_); rintro e w5 ⟨⟨u, rfl, hu, -⟩, hb5⟩; have HU := Lib.hid hu; have HB5 := Lib.hid (HB.out.trans (hb5.mono HB.out.size)); have HO5 := Lib.hid (show EnsO w5 wo.heap.size _ _ from ⟨owns_same HO.out.2.1 fun g hg => hb5.block g (HO.out.2.1.lt g hg).2, HO.out.2.2⟩); clear hu hb5)
                    have S5 := Lib.hid (And.intro (HJ.out.1.1.below HB5.out) (HJ.out.1.2.below HB5.out))
                    have hxX := (HEi.out w5 S5.out.2).1
                    have b5 := S5.out.1.box.at0
                    obtain ⟨uo, huo⟩ : ∃ uo : Nat, IntKind.u64.wrap ((u : Int) - (ls : Int)) = (uo : Int) ∧ uo < 18446744073709551616 := by
                      refine ⟨(IntKind.u64.wrap ((u : Int) - (ls : Int))).toNat, ?_⟩
                      rw [IntKind.wrap_u64]
                      omega
                    have hw1 := huo.1
                    have HUO := Lib.hid huo.2
                    have wd1 : IntKind.i64.wrap ((d : Int) + 1) = (d : Int) + 1 := IntWalk.i64_in _ (by omega)
                    have hcount := count_own (d := d) (i := i) (k := k) (b := c) (l := l) HN0.out
                    have hmore := Plain.behind_more (d := d) HNB.out (l.map wd)
                    have hbt := behind_total d (B ++ [c]) l
                    have QS : Hid (∀ W, Below w5.heap.size w5 W → Calls Tryd.prog 49 #[.pointer (some ⟨mb, 0, none⟩), .slice oa m oc, .int .i64 ((d : Int) + 1), .int .u64 (u : Int)] W (Stated W mb base v xs (1 + total (d + 1) (own d i k c l)))) := Lib.hid fun W hbW => by
                      have hs := S5.out.1.below hbW
                      refine HS.out W v (.slice oa m oc) xs (own d i k c l) u (HG.out.1.own i k c) (fun x hx => (own_mem hx).1) HN0.out (by have h2 := own_length d i k c l; omega) hs.mkr hs.rows (Nat.le_trans hs.hb hs.kp.size) ((HO5.out.toK).below hbW) (by
                        have h1 := HJ.out.2.2.2.2.2
                        have h4 := HG.out.2.2.2.1
                        omega) (fun x hx => ?_) (by have := HU.out; omega)
                      rcases hs.news x hx with h | h
                      · exact HG.out.2.2.2.2.1 x h
                      · exact h.1
                    have HCM := Lib.hid (And.intro hcount hmore)
                    clear huo hcount hmore hbt
                    have FIN : Hid (∀ (w6 w7 : World) (v6 : Value) (xs6 : List (Value × DSt)) (ci : Nat) (av7 : Value), (SI w mb base p v0 xs0 v6 xs6 (.slice (some ⟨ga9, oa9, none⟩) (t + 1) c9) ⟨arcs, f, ou⟩ w6 ∧ EnsK w6 (.slice (some ⟨b, o, none⟩) n0 cl) l ∧ ci < xs6.length ∧ xs6.length ≤ xs.length + (1 + total (d + 1) (own d i k c l))) →
                        Appd w6 w.heap.size 66 (.slice (some ⟨ga9, oa9, none⟩) (t + 1) c9) ((t + 1) + 1) (arcsC arcs ++ arcC ⟨(X[d]'hdX).toNat, uo, (ci : Int)⟩) p 0 (.slice (some ⟨ga9, oa9, none⟩) (t + 1) c9) av7 w7 →
                        ((SI w mb base p v0 xs0 v6 xs6 av7 ⟨arcs ++ [⟨(X[d]'hdX).toNat, uo, (ci : Int)⟩], f, ou⟩ (w7.setCell ⟨p, 0, none⟩ av7) ∧ EnsK (w7.setCell ⟨p, 0, none⟩ av7) (.slice (some ⟨b, o, none⟩) n0 cl) l) ∧ BI d (i + 1) l (B ++ [c]) ∧ (arcs ++ [⟨(X[d]'hdX).toNat, uo, (ci : Int)⟩] : List DArc).map (·.b) = (B ++ [c]).map UInt8.toNat ∧ (arcs ++ [⟨(X[d]'hdX).toNat, uo, (ci : Int)⟩] : List DArc).length ≤ i + 1 ∧ (∀ a ∈ (arcs ++ [⟨(X[d]'hdX).toNat, uo, (ci : Int)⟩] : List DArc), a.ok) ∧ xs6.length ≤ xs0.length + Plain.behind d (B ++ [c]) (l.map wd))) := Lib.hid fun w6 w7 v6 xs6 ci av7 hS hA => by
                      obtain ⟨S7, hk7⟩ := SI.more (a := ⟨(X[d]'hdX).toNat, uo, (ci : Int)⟩) hS.1 (by rw [show (⟨arcs, f, ou⟩ : DSt).arcs.length = (t + 1) from HLN.out]; exact hA)
                      have E7 := hS.1.entsMore hS.2.1 hk7
                      obtain ⟨j1, j2, j3, j4, j5, j6⟩ := HJ.out
                      have h3 := hS.2.2.2
                      have h6 := HCM.out
                      have h2 := hS.2.2.1
                      have h4 := HG.out.2.2.2.1
                      have h5 := behind_total d (B ++ [c]) l
                      refine ⟨⟨S7, E7⟩, j2.add HG.out.1 (by rw [HG.out.2.1]; exact of_decide_eq_true d2) HC.out.2, by rw [List.map_append, List.map_append, j3, HC.out.1]; rfl, by rw [List.length_append, List.length_singleton]; omega, fun a ha => ?_, by omega⟩
                      rcases List.mem_append.1 ha with ha | ha
                      · exact j5 a ha
                      · rw [List.mem_singleton.1 ha]
                        exact ⟨(X[d]'hdX).toNat_lt, HUO.out, by show (-9223372036854775808 : Int) ≤ (ci : Int); omega, by show (ci : Int) < 9223372036854775808; omega⟩
                    go_region_law (first
                      | (refine step_call_ok (f := 49) (args := #[.pointer (some ⟨mb, 0, none⟩), .slice oa m oc, .int .i64 ((d : Int) + 1), .int .u64 (u : Int)]) rfl (by first | (go_simp; done) | (go_simp; rfl)) (QS.out _ (by first | exact Below.refl _ _ | exact (Below.refl _ _).drew | exact belowNq (Below.refl _ _) _)) ?_
                         intro e' w6 hSt
                         obtain ⟨ci, v6, xs6, rfl, hci, hle, hSI6, hk6⟩ := SI.child (S5.out.1.below (by first | exact Below.refl _ _ | exact (Below.refl _ _).drew | exact belowNq (Below.refl _ _) _)) hSt
                         have hek := (S5.out.2.below (by first | exact Below.refl _ _ | exact (Below.refl _ _).drew | exact belowNq (Below.refl _ _) _)).stated (S5.out.1.below (by first | exact Below.refl _ _ | exact (Below.refl _ _).drew | exact belowNq (Below.refl _ _) _)).mkr (S5.out.1.below (by first | exact Below.refl _ _ | exact (Below.refl _ _).drew | exact belowNq (Below.refl _ _) _)).rows hk6
                         refine ⟨_, rfl, ?_⟩
                         have z0 := hSI6.box.at0
                         have z1 : ∀ ob, (w6.alloc ob).cell? ⟨p, 0, none⟩ = some (.slice (some ⟨ga9, oa9, none⟩) (t + 1) c9) := fun ob => by rw [(below_alloc w6 ob).cell (p := ⟨p, 0, none⟩) hSI6.box.lt]; exact hSI6.box.at0
                         have z2 := (HEi.out w6 hek).1
                         have S6 := Lib.hid (And.intro hSI6 (And.intro hek (And.intro hci hle)))
                         clear hSt hSI6 hek hk6 hci hle)
                      | (refine step_append_row (w2 := w6) (vs := .slice (some ⟨ga9, oa9, none⟩) (t + 1) c9) rfl (.tmp 119) (.tmp 137) rfl rfl Tryd.underlying62 iArc rfl (by decide) w.heap.size p 0 (.slice (some ⟨ga9, oa9, none⟩) (t + 1) c9) (t + 1) (arcsC arcs) (arcC ⟨(X[d]'hdX).toNat, uo, (ci : Int)⟩) w6.heap.size rfl rfl (heap_alloc_new w6 _) (below_alloc w6 _) (by have h := S6.out.1.arc; unfold ARow at h; rw [show (⟨arcs, f, ou⟩ : DSt).arcs.length = (t + 1) from HLN.out] at h; exact h) (by omega) S6.out.1.kp.size rfl (by intro u hu; simp [arcC] at hu; rcases hu with rfl | rfl | rfl <;> rfl) S6.out.1.arcp S6.out.1.box.at0 (S6.out.1.box.free 0) S6.out.1.box.lt ?_
                         intro a7 n7 c7 w7 hA7 r7 r8
                         have HA7 := Lib.hid hA7
                         clear hA7))
                    all_goals (
                      go_wp2
                      exact ⟨⟨i + 1, v6, xs6, _, _, _, by omega, by go_num, Lib.hid (FIN.out _ _ _ _ _ _ S6.out HA7.out)⟩, by simp [intOf]; omega⟩)
        · have d1 : decide ((i : Int) < (n0 : Int)) = false := decide_eq_false (by omega)
          have d2 : decide (i < n0) = false := decide_eq_false hlt
          clear hlt
          have hin : i = n0 := by have := of_decide_eq_false d2; omega
          obtain ⟨ea, qa, hav⟩ := HJ.out.1.1.arc.form
          obtain ⟨na, hna⟩ : ∃ na, na = arcs.length := ⟨_, rfl⟩
          rw [show (⟨arcs, f, ou⟩ : DSt).arcs.length = arcs.length from rfl, ← hna] at hav
          subst hav
          have b0 := HJ.out.1.1.box.at0
          have b1 := HJ.out.1.1.box.at1
          have b2 := HJ.out.1.1.box.at2
          have hFz : Fit ⟨arcs, f, ou⟩ := by
            obtain ⟨-, -, -, h2, h3, -⟩ := HJ.out
            exact ⟨by show arcs.length ≤ 30; omega, h3, HR.out.2⟩
          have QN := Lib.hid (refNumber_any (w := wo) (z := ⟨arcs, f, ou⟩) HJ.out.1.1.mkr HJ.out.1.1.rows (owns_mono HJ.out.1.1.arc HJ.out.1.1.hb) hna.symm (by
            have h1 := HJ.out.2.2.2.2.2
            have h2 := Plain.behind_le d B (l.map wd)
            have h3 := behind_total d B l
            have h4 := HG.out.2.2.2.1
            omega) (fun x hx => by
            rcases HJ.out.1.1.news x hx with h | h
            · have := (HG.out.2.2.2.2.1 x h).1; omega
            · have := h.1.1; omega) (by have := hFz.1; rw [hna]; exact Nat.le_trans this (by omega)) (Nat.le_trans HJ.out.1.1.hb HJ.out.1.1.kp.size))
          have HF := Lib.hid hFz
          clear hFz hna hin
          go_wp2_with (go_at_call 72; (with_reducible refine (QN.out).mono ?_); intro e w3 hN; have HN := Lib.hid hN; obtain ⟨ni, nv, nxs, rfl, hnn⟩ := hN; clear hnn)
          go_ret
          exact HJ.out.1.1.finish HF.out HN.out (by
            have h1 := HJ.out.2.2.2.2.2
            have h3 := behind_total d B l
            omega)
end Go.Proofs.YtjiilmiikejnhaaDoor
namespace Go.Proofs.YtjiilmiikejnhaaDoor
open Go.RowKit Go.Shelf

theorem refState_any : ∀ (n : Nat) {w : World} {mb base d ls : Nat} {v0 vl : Value} {xs0 : List (Value × DSt)} {l : List En}, Good d l → (∀ x ∈ l, (wd x).length ≤ d + n) → l ≠ [] → l.length ≤ 30 → MkrB w mb v0 → RowsI w base v0 xs0 → base ≤ w.heap.size → EnsK w vl l →
    xs0.length + 1 + total d l ≤ 100000 → (∀ x ∈ xs0, Fit x.2) → d + n ≤ 1000 → ls < 18446744073709551616 →
    Calls Tryd.prog 49 #[.pointer (some ⟨mb, 0, none⟩), vl, .int .i64 (d : Int), .int .u64 (ls : Int)] w (Stated w mb base v0 xs0 (1 + total d l))
  | 0, w, mb, base, d, ls, v0, vl, xs0, l, hg, hn, hl0, hl, hm, hr, hb, he, hx, hf, hd, hls => by
    refine state_walk (n := 0) hg (fun x hx => Nat.le_trans (hn x hx) (by omega)) hl0 hl hm hr hb he hx hf (by omega) hls ?_
    intro W v' vl' xs' l' ls' hg' hsub hl0' _ _ _ _ _ _ _ _
    obtain ⟨x, hx⟩ := List.exists_mem_of_ne_nil l' hl0'
    have h1 := hg'.long x hx
    have h2 := hn x (hsub x hx)
    omega
  | n + 1, w, mb, base, d, ls, v0, vl, xs0, l, hg, hn, hl0, hl, hm, hr, hb, he, hx, hf, hd, hls => by
    refine state_walk (n := n) hg (fun x hx => Nat.le_trans (hn x hx) (by omega)) hl0 hl hm hr hb he hx hf (by omega) hls ?_
    intro W v' vl' xs' l' ls' hg' hsub hl0' hl' hm' hr' hb' he' hx' hf' hls'
    exact refState_any n hg' (fun x hx => by have := hn x (hsub x hx); omega) hl0' hl' hm' hr' hb' he' hx' hf' (by omega) hls'
end Go.Proofs.YtjiilmiikejnhaaDoor

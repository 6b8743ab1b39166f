/-
  A reader, made. Rows of states, each with its own row of arcs. A part more behind a row of one's own, where no order is drawn. The document's: of few states. The document's: a transducer that may be laid, of whatever came.
-/
import Derived.Test.YtjiilmiikejnhaaDoorP12
import Derived.Laws.EntriesVeiled
import Derived.Laws.AppendOwn
import Derived.Test.YtjiilmiikejnhaaDoorP01
import Derived.Test.YtjiilmiikejnhaaDoorP06
set_option linter.unusedVariables false
set_option linter.unusedSimpArgs false
namespace Go.Proofs.YtjiilmiikejnhaaDoor
open Go.RowKit Go.Shelf Said

theorem alloc_old (w : World) (o : Obj) {k : Nat} (h : k < w.heap.size) : (w.alloc o).heap[k]? = w.heap[k]? := (below_alloc w o).block k h
theorem alloc_at (w : World) (o : Obj) {k : Nat} (h : k = w.heap.size) : (w.alloc o).heap[k]? = some o := by rw [h]; exact heap_alloc_new w o

set_option maxHeartbeats 1000000 in
set_option maxRecDepth 100000 in
theorem over_any {w : World} (s : ByteArray) :
    Calls Tryd.prog 59 #[.string s] w fun e w' => e = .returned (.agg (rdrC (w.heap.size + 2) (w.heap.size + 3) w.heap.size)) ∧ Rdr w' (w.heap.size + 2) (w.heap.size + 3) w.heap.size s 0 ∧ Below w.heap.size w w' := by
  go_enter Tryd.func59, Tryd.ntmps59
  go_wp2
  refine bodyPost_ret (v := .agg (rdrC (w.heap.size + 2) (w.heap.size + 3) w.heap.size)) (by simp [results, Tryd.results59, go_sem, rdrC]) rfl ?_
  refine ⟨rfl, ⟨?_, ?_, ?_⟩, ?_⟩
  · rw [alloc_old _ _ (by simp)]
    exact alloc_at _ _ (by simp)
  · exact alloc_at _ _ (by simp)
  · rw [alloc_old _ _ (by simp; omega), alloc_old _ _ (by simp; omega), alloc_old _ _ (by simp)]
    exact alloc_at _ _ rfl
  · exact ((((Below.refl _ w).alloc (Nat.le_refl _) _).alloc (by simp) _).alloc (by simp; omega) _).alloc (by simp; omega) _

end Go.Proofs.YtjiilmiikejnhaaDoor
namespace Go.Proofs.YtjiilmiikejnhaaDoor
open Go.RowKit Go.Shelf Said

def FstB (w : World) (p : Nat) (v : Value) (n : Nat) : Prop := w.heap[p]? = some (.cells #[v, .int .u64 (n : Int)] 25 (0, 0))
theorem FstB.at0 {w : World} {p : Nat} {v : Value} {n : Nat} (h : FstB w p v n) : w.cell? ⟨p, 0, none⟩ = some v := by rw [cell_of_row w p 0 _ _ _ h]; rfl
theorem FstB.at1 {w : World} {p : Nat} {v : Value} {n : Nat} (h : FstB w p v n) : w.cell? ⟨p, 1, none⟩ = some (.int .u64 (n : Int)) := by rw [cell_of_row w p 1 _ _ _ h]; rfl
theorem FstB.lt {w : World} {p : Nat} {v : Value} {n : Nat} (h : FstB w p v n) : p < w.heap.size := (Array.getElem?_eq_some_iff.1 h).1
theorem FstB.kp {w w' : World} {p : Nat} {v : Value} {n : Nat} {M : Nat → Prop} (h : FstB w p v n) (hk : Kp M w w') (hm : ¬ M p) : FstB w' p v n := (hk.block p h.lt hm).trans h
theorem FstB.free {w : World} {p : Nat} {v : Value} {n : Nat} (h : FstB w p v n) (o : Nat) : w.frozen? ⟨p, o, none⟩ = false := by
  unfold FstB at h
  simp [World.frozen?, h]
theorem FstB.set0 {w : World} {p : Nat} {v : Value} {n : Nat} (h : FstB w p v n) (u : Value) : FstB (w.setCell ⟨p, 0, none⟩ u) p u n := cells_setCell h 0 _
theorem FstB.set1 {w : World} {p : Nat} {v : Value} {n : Nat} (h : FstB w p v n) (m : Nat) : FstB (w.setCell ⟨p, 1, none⟩ (.int .u64 (m : Int))) p v m := cells_setCell h 1 _

theorem owns_base {w : World} {b base size n : Nat} {e : TypeId} {v : Value} {xs : List Value} (h : w.ownsRow b e size v n xs) (hb : base ≤ b) : w.ownsRow base e size v n xs := by
  refine ⟨h.1, ?_⟩
  rcases h.2 with h' | ⟨g, cap, cur, rfl, h2, h3⟩
  · exact .inl h'
  · exact .inr ⟨g, cap, cur, rfl, Nat.le_trans hb h2, h3⟩

/-- A row of states, each with its own row of arcs. -/
def RowsI (w : World) (base : Nat) (v : Value) (xs : List (Value × DSt)) : Prop := SRow w base v xs ∧ ∀ x ∈ xs, ARow w base x.1 x.2.arcs
theorem RowsI.kp {w w' : World} {base : Nat} {v : Value} {xs : List (Value × DSt)} {M : Nat → Prop} (h : RowsI w base v xs) (hk : Kp M w w') (hm : ∀ g cs fz, base ≤ g → w.heap[g]? = some (.cells cs 64 fz) ∨ w.heap[g]? = some (.cells cs 66 fz) → ¬ M g) : RowsI w' base v xs := by
  refine ⟨owns_same h.1 fun g hg => ?_, fun x hx => owns_same (h.2 x hx) fun g hg => ?_⟩
  · obtain ⟨h1, cs, fz, h2⟩ := owns_cells h.1 g hg
    exact hk.block g (h.1.lt g hg).2 (hm g cs fz h1 (.inl h2))
  · obtain ⟨h1, cs, fz, h2⟩ := owns_cells (h.2 x hx) g hg
    exact hk.block g ((h.2 x hx).lt g hg).2 (hm g cs fz h1 (.inr h2))
theorem RowsI.sts {w : World} {base : Nat} {v : Value} {xs : List (Value × DSt)} (h : RowsI w base v xs) : Sts w v (xs.map (·.2)) := sts_of' h.1 fun x hx => (h.2 x hx).arcs

theorem arcsR_lt {s : List UInt8} {own : Nat} : ∀ {n a k : Nat} {acc l : List DArc}, arcsR s own n a acc = .ok (l, k) → a ≤ k ∧ (a ≤ s.length → k ≤ s.length)
  | 0, a, k, acc, l, h => by
    injection h with h
    injection h with h1 h2
    omega
  | n + 1, a, k, acc, l, h => by
    unfold arcsR at h
    cases hA : arcR s own a with
    | error e => rw [hA] at h; cases h
    | ok r =>
      obtain ⟨x, a1⟩ := r
      rw [hA] at h
      have h1 := arcR_lt hA
      have h2 := arcsR_lt h
      omega
theorem stR_lt {s : List UInt8} {own a k : Nat} {x : DSt} (h : stR s own a = .ok (x, k)) : a < k ∧ k ≤ s.length := by
  unfold stR at h
  cases hT : numR s a 0 513 with
  | error e => rw [hT] at h; cases h
  | ok r1 =>
    obtain ⟨t, a1⟩ := r1
    rw [hT] at h
    dsimp only at h
    have g1 := numR_lt hT
    split at h
    · cases h
    · rename_i o a2 he
      have g2 : a1 ≤ a2 ∧ a2 ≤ s.length := by
        by_cases hf : t % 2 = 1
        · rw [if_pos hf] at he
          have := numR_lt he
          omega
        · rw [if_neg hf] at he
          injection he with he
          injection he with h1 h2
          omega
      cases hA : arcsR s own (t / 2) a2 [] with
      | error e => rw [hA] at h; cases h
      | ok r3 =>
        obtain ⟨l, a3⟩ := r3
        rw [hA] at h
        injection h with h
        injection h with h1 h2
        have := arcsR_lt hA
        omega

/-- One state more stands in the row, and the row in its box. -/
theorem rows_next {w1 w5 : World} {base pa pm ps q r : Nat} {s : ByteArray} {xs : List (Value × DSt)} {y : Value × DSt} {v v5 v0 : Value} {n a3 : Nat} (hs : FstB w1 q v n) (hr : Rdr w1 pa pm ps s a3) (hrb : RB w1 r pa pm ps) (hrow : RowsI w1 base v xs) (hy : ARow w1 base y.1 y.2.arcs)
    (hA : Appd w1 base 64 v (xs.length + 1) (stsC xs ++ stC y) q 0 v0 v5 w5) (hq : q ≠ pa ∧ q ≠ pm ∧ q ≠ ps ∧ q ≠ r ∧ base ≤ q) :
    FstB (w5.setCell ⟨q, 0, none⟩ v5) q v5 n ∧ RowsI (w5.setCell ⟨q, 0, none⟩ v5) base v5 (xs ++ [y]) ∧ Rdr (w5.setCell ⟨q, 0, none⟩ v5) pa pm ps s a3 ∧ RB (w5.setCell ⟨q, 0, none⟩ v5) r pa pm ps ∧ Kp (fun g => base ≤ g) w1 (w5.setCell ⟨q, 0, none⟩ v5) := by
  obtain ⟨a1, a2, a3', -, -⟩ := hA
  have nb : ∀ b o, w1.heap[b]? = some o → (∀ cs fz, o ≠ .cells cs 64 fz) → ¬ v.ownBlock = some b := fun b o ho hne e => by
    obtain ⟨_, cs, fz, hc⟩ := owns_cells hrow.1 b e
    rw [ho] at hc
    exact hne cs fz (Option.some.inj hc)
  have hs' : w1.heap[q]? = some _ := hs
  have hrb' : w1.heap[r]? = some _ := hrb
  have hk := kp_set w5 q 0 v5
  have hs5 := hs.kp a2 (nb q _ hs' (fun cs fz e => by cases e))
  have nq : ∀ b, v5.ownBlock = some b → b ≠ q := fun b hb e => by
    subst e
    rcases a3' with e | e
    · rw [e] at hb
      exact nb b _ hs' (fun cs fz e => by cases e) hb
    · have := e b hb
      have := hs.lt
      omega
  have hks : Kp (fun g => v.ownBlock = some g ∨ g = q) w1 (w5.setCell ⟨q, 0, none⟩ v5) := (a2.mono fun g e => .inl (.inl e)).trans hk (fun g e => .inl (.inr e))
  have hold : ∀ x : Value × DSt, ARow w1 base x.1 x.2.arcs → ARow (w5.setCell ⟨q, 0, none⟩ v5) base x.1 x.2.arcs := fun x hx => hx.kp hks fun g hg e => by
    obtain ⟨_, cs, fz, hc⟩ := owns_cells hx g hg
    rcases e with e | e
    · exact nb g _ hc (fun cs' fz' e' => by cases e') e
    · subst e
      rw [hs'] at hc
      cases hc
  refine ⟨hs5.set0 v5, ⟨?_, fun x hx => ?_⟩, (hr.kp a2 (nb _ _ hr.pos (fun cs fz e => by cases e)) (nb _ _ hr.must (fun cs fz e => by cases e)) (nb _ _ hr.text (fun cs fz e => by cases e))).kp hk (fun e => hq.1 e.symm) (fun e => hq.2.1 e.symm) (fun e => hq.2.2.1 e.symm), (hrb.kp a2 (nb r _ hrb' (fun cs fz e => by cases e))).kp hk (fun e => hq.2.2.2.1 e.symm), hks.mono fun g e => .inl ?_⟩
  · unfold SRow
    rw [List.length_append, List.length_singleton, stsC_snoc]
    exact owns_same a1 fun b hb => hk.block b (a1.lt b hb).2 (nq b hb)
  · rcases List.mem_append.1 hx with h | h
    · exact hold x (hrow.2 x h)
    · rw [List.mem_singleton.1 h]
      exact hold y hy
  · rcases e with e | e
    · exact (hrow.1.lt g e).1
    · rw [e]; exact hq.2.2.2.2

end Go.Proofs.YtjiilmiikejnhaaDoor
namespace Go.Proofs.YtjiilmiikejnhaaDoor
open Go.RowKit Go.Shelf Said

theorem wpList_append_row {w2 w : World} {ops : Array Oper} {rest : List Oper} {o : Oper} {a : Act} {Q : Exit → Act → World → Prop} {t e : TypeId} {by_ : Nat}
    (hg : o.guard = none) (s x : Operand) (hop : o.op = Op.call { callee := Callee.builtin Builtin.append, args := #[s, x], argTypes := #[t, t] }) (ht : o.type = t)
    (hu : Tryd.prog.underlying t = some (.slice e)) {z1 : Value} (hi9 : (Tryd.prog.info? e).map (fun i => (i.zero, i.size, i.bytes)) = some (some z1, 3, by_)) (hz9 : z1.cells.size = 3) (hby9 : by_ ≤ 1000)
    (base bp op_ : Nat) (v0 : Value) (n : Nat) (xs cs : List Value) (bb : Nat) {vs : Value}
    (hs : a.eval s = vs) (hx : a.eval x = .slice (some ⟨bb, 0, none⟩) 1 1) (hn : w.heap[bb]? = some (.cells cs.toArray e (0, 0))) (hb : Below w2.heap.size w2 w)
    (hr : w2.ownsRow base e 3 vs n xs) (hL : n ≤ 100000) (hbs : base ≤ w2.heap.size) (hc3 : cs.length = 3) (hv1 : ∀ u ∈ cs, u.oneCell' = true)
    (hp1 : vs.ownBlock ≠ some bp) (hp2 : w2.cell? ⟨bp, op_, none⟩ = some v0) (hp3 : w2.frozen? ⟨bp, op_, none⟩ = false) (hp4 : bp < w2.heap.size)
    (hK : ∀ ad k c w3, Appd w2 base e vs (n + 1) (xs ++ cs) bp op_ v0 (.slice ad k c) w3 → w3.cell? ⟨bp, op_, none⟩ = some v0 → w3.frozen? ⟨bp, op_, none⟩ = false → wpList Tryd.prog ops Q rest (a.put o.dst (.slice ad k c)) w3) :
    wpList Tryd.prog ops Q (o :: rest) a w := by
  obtain ⟨i0, hi, hz0, hz1, hz2⟩ := info_parts hi9
  have hr' : w.ownsRow base e 3 vs n xs := owns_same hr fun b hbb => hb.block b (hr.lt b hbb).2
  have hbw : base ≤ w.heap.size := Nat.le_trans hbs hb.size
  obtain ⟨v', w3, h1, h2, h3, _, h5⟩ := run_append_own_at (P := Tryd.prog) w base t t e i0 _ 3 by_ hu hi hz0 hz1 hz2 hz9 (by decide) vs n xs hr' ⟨bb, 0, none⟩ 1 1 cs (by rw [hc3])
    (by
      intro j u hj
      rw [Addr.add_lit, Nat.zero_add, cell_of_row w bb j _ _ _ hn]
      simpa using hj) hv1 (by unfold maxLen; omega) (by
      have : (n + 1) * by_ ≤ 100001 * 1000 := Nat.mul_le_mul (by omega) hby9
      omega) hbw
  refine wpList_plain hg fun _ hK9 => ?_
  unfold Oper.wp execOp
  simp only [hop, ht, resolve, invoke, builtin, Sem.run_bind, Sem.run_pure, Result.andThen_ok, List.map_toArray, List.map_cons, List.map_nil, hs, hx, h1]
  refine hK9 _ _ ?_
  obtain ⟨ad, k, c, rfl⟩ : ∃ ad k c, v' = .slice ad k c := by
    rcases h2.2 with ⟨rfl, _⟩ | ⟨g, cap, cur, rfl, _⟩
    · exact ⟨_, _, _, rfl⟩
    · exact ⟨_, _, _, rfl⟩
  have hbl : w3.heap[bp]? = w2.heap[bp]? := (h3.block bp (Nat.lt_of_lt_of_le hp4 hb.size) (fun e => hp1 e.symm)).trans (hb.block bp hp4)
  have q1 : w3.cell? ⟨bp, op_, none⟩ = some v0 := by rw [World.cell?_of_block (w := w2) (a := ⟨bp, op_, none⟩) hbl]; exact hp2
  have q2 : w3.frozen? ⟨bp, op_, none⟩ = false := by
    have : w3.frozen? ⟨bp, op_, none⟩ = w2.frozen? ⟨bp, op_, none⟩ := by simp only [World.frozen?, hbl]
    rw [this]; exact hp3
  refine hK ad k c w3 ⟨h2, (Kp.below hb).trans (Kp.grown h3 (fun g e => e)) (fun g h => .inl h), ?_, q1, q2⟩ q1 q2
  rcases h5 with e | e
  · exact .inl e
  · refine .inr fun b hb' => ?_
    have := e.symm.trans hb'
    injection this with this
    have := hb.size
    omega

end Go.Proofs.YtjiilmiikejnhaaDoor
namespace Go.Proofs.YtjiilmiikejnhaaDoor
open Go.RowKit Go.Shelf Said

/-- Arcs that are read, in a row that has room for them. -/
def ArcsC (w : World) (v : Value) (l : List DArc) : Prop := Arcs w v l ∧ ∃ ad c, v = .slice ad l.length c ∧ l.length ≤ c
theorem ArcsC.below {w w' : World} {v : Value} {l : List DArc} (h : ArcsC w v l) (hb : Below w.heap.size w w') : ArcsC w' v l := ⟨h.1.below hb, h.2⟩
/-- A transducer's states as they come. -/
def StsC (w : World) (v : Value) (l : List DSt) : Prop :=
  ∃ ad c, v = .slice ad l.length c ∧ ∀ i, i < l.length → ∃ b o, ad = some ⟨b, o, none⟩ ∧ ∃ u, w.cell? ⟨b, o + i * 3, none⟩ = some u ∧ w.cell? ⟨b, o + i * 3 + 1, none⟩ = some (.bool (stAt l i).fin) ∧ w.cell? ⟨b, o + i * 3 + 2, none⟩ = some (.int .u64 ((stAt l i).out : Int)) ∧ ArcsC w u (stAt l i).arcs
theorem StsC.below {w w' : World} {v : Value} {l : List DSt} (h : StsC w v l) (hb : Below w.heap.size w w') : StsC w' v l := by
  obtain ⟨ad, c, rfl, hc⟩ := h
  refine ⟨ad, c, rfl, fun i hi => ?_⟩
  obtain ⟨b, o, e, u, h1, h2, h3, h4⟩ := hc i hi
  have hs := hb.block b (block_lt_of_cell h1)
  exact ⟨b, o, e, u, (cell_same hs).trans h1, (cell_same hs).trans h2, (cell_same hs).trans h3, h4.below hb⟩
theorem StsC.sts {w : World} {v : Value} {l : List DSt} (h : StsC w v l) : Sts w v l := by
  obtain ⟨ad, c, rfl, hc⟩ := h
  refine ⟨ad, c, rfl, fun i hi => ?_⟩
  obtain ⟨b, o, e, u, h1, h2, h3, h4⟩ := hc i hi
  exact ⟨b, o, e, u, h1, h2, h3, h4.1⟩
theorem arcs_take {w : World} {ad : Option Addr} {n c : Nat} {l : List DArc} (h : Arcs w (.slice ad n c) l) {k c' : Nat} (hk : k ≤ l.length) : Arcs w (.slice ad k c') (l.take k) := by
  obtain ⟨ad', c0, e, hc⟩ := h
  injection e with e1 e2 e3
  subst e1
  refine ⟨ad, c', by simp [Nat.min_eq_left hk], fun i hi => ?_⟩
  have hik : i < k := by simp at hi; omega
  obtain ⟨b, o, e4, hE⟩ := hc i (by omega)
  refine ⟨b, o, e4, ?_⟩
  rw [show arcAt (l.take k) i = arcAt l i by simp [arcAt, List.getD, List.getElem?_take, hik]]
  exact hE

/-- A row of states of one's own, whose arcs are read. -/
def RowsA (w : World) (base : Nat) (v : Value) (xs : List (Value × DSt)) : Prop := SRow w base v xs ∧ ∀ x ∈ xs, ArcsC w x.1 x.2.arcs
theorem RowsA.sts {w : World} {base : Nat} {v : Value} {xs : List (Value × DSt)} (h : RowsA w base v xs) : Sts w v (xs.map (·.2)) := sts_of' h.1 fun x hx => (h.2 x hx).1

/-- A state more stands in the row, and the row in its box. -/
theorem srow_next {w1 w5 : World} {base q n : Nat} {xs : List (Value × DSt)} {y : Value × DSt} {v v5 v0 : Value} (hs : FstB w1 q v n) (hrow : SRow w1 base v xs) (hq : base ≤ q)
    (hA : Appd w1 base 64 v (xs.length + 1) (stsC xs ++ stC y) q 0 v0 v5 w5) :
    FstB (w5.setCell ⟨q, 0, none⟩ v5) q v5 n ∧ SRow (w5.setCell ⟨q, 0, none⟩ v5) base v5 (xs ++ [y]) ∧ Kp (fun g => v.ownBlock = some g ∨ g = q) w1 (w5.setCell ⟨q, 0, none⟩ v5) := by
  obtain ⟨a1, a2, a3', -, -⟩ := hA
  have nb : ∀ b o, w1.heap[b]? = some o → (∀ cs fz, o ≠ .cells cs 64 fz) → ¬ v.ownBlock = some b := fun b o ho hne e => by
    obtain ⟨_, cs, fz, hc⟩ := owns_cells hrow b e
    rw [ho] at hc
    exact hne cs fz (Option.some.inj hc)
  have hs' : w1.heap[q]? = some _ := hs
  have hk := kp_set w5 q 0 v5
  have hs5 := hs.kp a2 (nb q _ hs' (fun cs fz e => by cases e))
  have nq : ∀ b, v5.ownBlock = some b → b ≠ q := fun b hb e => by
    subst e
    rcases a3' with e | e
    · rw [e] at hb
      exact nb b _ hs' (fun cs fz e => by cases e) hb
    · have := e b hb
      have := hs.lt
      omega
  refine ⟨hs5.set0 v5, ?_, (a2.mono fun g e => .inl (.inl e)).trans hk (fun g e => .inl (.inr e))⟩
  unfold SRow
  rw [List.length_append, List.length_singleton, stsC_snoc]
  exact owns_same a1 fun b hb => hk.block b (a1.lt b hb).2 (nq b hb)

theorem fst_apart {w : World} {base p n : Nat} {v u : Value} {xs : List (Value × DSt)} (h : FstB w p u n) (hr : SRow w base v xs) : v.ownBlock ≠ some p := fun e => by
  obtain ⟨_, cs, fz, hc⟩ := owns_cells hr p e
  have h' : w.heap[p]? = some _ := h
  rw [h'] at hc
  cases hc

set_option maxHeartbeats 2000000 in
set_option maxRecDepth 100000 in
theorem few_any {w : World} {v : Value} {l : List DSt} {init : Nat} (h : StsC w v l) :
    Calls Tryd.prog 9 #[.agg #[v, .int .u64 (init : Int)]] w fun e w' => ∃ ad c xs, e = .returned (.agg #[.slice ad xs.length c, .int .u64 (init : Int)]) ∧ RowsA w' w.heap.size (.slice ad xs.length c) xs ∧ xs.map (·.2) = fewT l ∧ Below w.heap.size w w' := by
  have hst := h
  obtain ⟨ad, c, rfl, hc⟩ := h
  obtain ⟨n, hn⟩ : ∃ n, l.length = n := ⟨_, rfl⟩
  rw [hn] at hc ⊢
  obtain ⟨w0, hw0⟩ : ∃ w0, w0 = ((w.alloc (.cells #[.slice ad n c, .int .u64 (init : Int)] 25)).alloc (.cells #[.slice none 0 0, .int .u64 0] 25)).alloc (.cells #[.slice none 0 0, .int .u64 (init : Int)] 25) := ⟨_, rfl⟩
  have hb0 : Below w.heap.size w w0 := by rw [hw0]; exact ((below_alloc w _).alloc (by simp) _).alloc (by simp; try omega) _
  have f0 : FstB w0 w.heap.size (.slice ad n c) init := by rw [hw0]; exact (alloc_old _ _ (by simp; try omega)).trans ((alloc_old _ _ (by simp)).trans (heap_alloc_new w _))
  have f1 : FstB w0 (w.heap.size + 1) (.slice none 0 0) 0 := by rw [hw0]; exact (alloc_old _ _ (by simp; try omega)).trans (alloc_at _ _ (by simp))
  have f2 : FstB w0 (w.heap.size + 1 + 1) (.slice none 0 0) init := by rw [hw0]; exact alloc_at _ _ (by simp)
  have HC := Lib.hid hc
  have HN := Lib.hid hn
  have H0 := Lib.hid (And.intro hb0 (And.intro f0 (And.intro f1 f2)))
  clear hc hn hst hb0 f0 f1 f2
  go_enter Tryd.func9, Tryd.ntmps9
  go_upto_region 3 with fail
  rw [← hw0]
  clear hw0
  go_loopw [4] (fun s4 wr => ∃ (k : Nat) (xs : List (Value × DSt)) (ar : Option Addr) (cr : Nat), k ≤ n ∧ k ≤ 12 ∧ s4 = .int .i64 k ∧ Hid (xs.length = k ∧ SRow wr w.heap.size (.slice ar k cr) xs ∧ (∀ x ∈ xs, ArcsC w x.1 x.2.arcs) ∧ xs.map (·.2) = (l.take k).map fewS) ∧ Hid (FstB wr w.heap.size (.slice ad n c) init ∧ FstB wr (w.heap.size + 1) (.slice none 0 0) 0 ∧ FstB wr (w.heap.size + 1 + 1) (.slice ar k cr) init) ∧ Hid (Below w.heap.size w wr)) (fun s4 _ => 12 - (intOf s4).toNat)
  case atStart => exact ⟨0, [], none, 0, Nat.zero_le _, Nat.zero_le _, rfl, Lib.hid ⟨rfl, World.ownsRow_nil w0 _ 64 3, List.forall_mem_nil _, rfl⟩, Lib.hid H0.out.2, Lib.hid H0.out.1⟩
  case round =>
    obtain ⟨k, xs, ar, cr, hk, hk12, rfl, HR, HF, HB⟩ := hrel
    by_cases hlt : k < n ∧ k < 12
    · obtain ⟨hl1, hl2⟩ := hlt
      obtain ⟨b, o, rfl, u, h1, h2, h3, h4, e1, q1, rfl, hcap⟩ := HC.out k hl1
      have hs := HB.out.block b (block_lt_of_cell h1)
      have h1 := (cell_same (p := ⟨b, o + k * 3, none⟩) hs).trans h1
      have h2 := (cell_same (p := ⟨b, o + k * 3 + 1, none⟩) hs).trans h2
      have h3 := (cell_same (p := ⟨b, o + k * 3 + 2, none⟩) hs).trans h3
      have hmem : stAt l k = l[k]'(by rw [HN.out]; exact hl1) := stAt_lt _
      obtain ⟨y, hy⟩ : ∃ y, stAt l k = y := ⟨_, rfl⟩
      rw [hy] at h1 h2 h3 h4 hcap hmem
      obtain ⟨m, hm⟩ : ∃ m, y.arcs.length = m := ⟨_, rfl⟩
      rw [hm] at h1 h4 hcap
      obtain ⟨km, hkm⟩ : ∃ km, km = min 6 m := ⟨_, rfl⟩
      have hkm6 : km ≤ 6 := by omega
      have hkmm : km ≤ m := by omega
      have hmin : min (m : Int) 6 = (km : Int) := by omega
      have hkq : km ≤ q1 := by omega
      have d1 : decide ((k : Int) < (n : Int)) = true := by simp; omega
      have d2 : decide ((k : Int) < 12) = true := by simp; omega
      have il : (k : Int) < (n : Int) := by omega
      have c0 := HF.out.1.at0
      have c2 := fun o => FstB.at0 (HF.out.2.2.kp (Kp.below (M := fun _ => False) (below_alloc wr o)) (fun h => h))
      have HX := Lib.hid (And.intro h4 (And.intro hm (And.intro hmem (And.intro hkm hcap))))
      clear hs h4 hm hmem hy hkm hcap
      obtain ⟨ob, hob⟩ : ∃ ob, ob = Obj.cells #[.slice e1 km q1, .bool y.fin, .int .u64 (y.out : Int)] 64 (0, 0) := ⟨_, rfl⟩
      have HA : SRow (wr.alloc ob) w.heap.size (.slice ar k cr) xs := owns_same HR.out.2.1 fun g hg => alloc_old _ _ (HR.out.2.1.lt g hg).2
      have HBB : FstB (wr.alloc ob) (w.heap.size + 1 + 1) (.slice ar k cr) init := HF.out.2.2.kp (Kp.below (M := fun _ => False) (below_alloc wr ob)) (fun h => h)
      have HA' := HA
      unfold SRow at HA'
      rw [HR.out.1] at HA'
      have HW := Lib.hid (And.intro (show ((wr.alloc ob).alloc ob).heap[wr.heap.size + 1]? = some ob from alloc_at _ _ (by simp)) (And.intro HA' (And.intro (show k ≤ 100000 by omega) (And.intro (show w.heap.size ≤ (wr.alloc ob).heap.size by have := HB.out.size; simp; omega)
        (And.intro (show ∀ u ∈ [Value.slice e1 km q1, .bool y.fin, .int .u64 (y.out : Int)], u.oneCell' = true by intro u hu; simp at hu; rcases hu with rfl | rfl | rfl <;> rfl) (And.intro (fst_apart HBB HA) (And.intro HBB.at0 (And.intro (HBB.free 0) HBB.lt))))))))
      have HNX := Lib.hid (And.intro HBB HA)
      rw [hob] at HW HNX
      clear HA HBB HA' hob
      go_wp2_with (at_builtin
                   go_loud (refine wpList_append_row (w2 := wr.alloc (.cells #[.slice e1 km q1, .bool y.fin, .int .u64 (y.out : Int)] 64)) (vs := .slice ar k cr) rfl (.tmp 34) (.tmp 36) rfl rfl Tryd.underlying22 iState rfl (by decide) w.heap.size (w.heap.size + 1 + 1) 0 (.slice ar k cr) k (stsC xs) [.slice e1 km q1, .bool y.fin, .int .u64 (y.out : Int)] (wr.heap.size + 1) rfl rfl HW.out.1 (below_alloc _ _) HW.out.2.1 HW.out.2.2.1 HW.out.2.2.2.1 rfl HW.out.2.2.2.2.1 HW.out.2.2.2.2.2.1 HW.out.2.2.2.2.2.2.1 HW.out.2.2.2.2.2.2.2.1 HW.out.2.2.2.2.2.2.2.2 ?_)
                   intro a5 n5 c5 w5 hA5 r1 r2
                   have HA5 := Lib.hid hA5
                   clear hA5 c2)
      have hy6 : ArcsC w (.slice e1 km q1) (fewS y).arcs := by
        obtain ⟨x1, x2, x3, x4, x5⟩ := HX.out
        have hl : (fewS y).arcs.length = km := by simp [fewS]; omega
        refine ⟨?_, e1, q1, by rw [hl], by omega⟩
        have := arcs_take x1 (k := km) (c' := q1) (by omega)
        rwa [show (fewS y).arcs = y.arcs.take km by simp only [fewS]; rw [x4, ← List.take_take, x2.symm, List.take_length]]
      obtain ⟨n1, n2, n3⟩ := srow_next (y := (.slice e1 km q1, fewS y)) (v5 := .slice a5 n5 c5) HNX.out.1 HNX.out.2 (by omega) (by rw [HR.out.1]; exact HA5.out)
      obtain ⟨ar', cr', e⟩ := n2.form
      injection e with i1 i2 i3
      subst i1 i2 i3
      have hlen : (xs ++ [((.slice e1 km q1, fewS y) : Value × DSt)]).length = k + 1 := by simp [HR.out.1]
      rw [hlen] at n1 n2 n3 ⊢
      have hkp : Kp (fun g => (Value.slice ar k cr).ownBlock = some g ∨ g = w.heap.size + 1 + 1) wr _ := ((Kp.below (M := fun _ => False) (below_alloc wr _)).mono (fun g h => absurd h (fun h => h))).trans n3 (fun g e => .inl e)
      refine ⟨⟨k + 1, xs ++ [(.slice e1 km q1, fewS y)], a5, c5, by omega, by omega, by go_num, Lib.hid ⟨hlen, n2, fun x hx => ?_, ?_⟩, Lib.hid ⟨HF.out.1.kp hkp ?_, HF.out.2.1.kp hkp ?_, n1⟩, Lib.hid (((Kp.below (M := fun g => w.heap.size ≤ g) HB.out).trans hkp (fun g e => .inl ?_)).to (Nat.le_refl _) fun g e => e)⟩, by simp [intOf]; omega⟩
      · rcases List.mem_append.1 hx with hx | hx
        · exact HR.out.2.2.1 x hx
        · rw [List.mem_singleton.1 hx]; exact hy6
      · have hkl : k < l.length := by rw [HN.out]; exact hl1
        rw [List.map_append, HR.out.2.2.2, List.take_succ_eq_append_getElem hkl, List.map_append]
        simp [HX.out.2.2.1]
      · rintro (e | e)
        · exact fst_apart HF.out.1 HR.out.2.1 e
        · omega
      · rintro (e | e)
        · exact fst_apart HF.out.2.1 HR.out.2.1 e
        · omega
      · rcases e with e | e
        · exact (HR.out.2.1.lt g e).1
        · omega
    · obtain ⟨e0, e1⟩ : k = min 12 n ∧ True := ⟨by omega, trivial⟩
      have hfin : xs.map (·.2) = fewT l := by
        rw [HR.out.2.2.2, e0]
        unfold fewT
        rw [← HN.out]
        congr 1
        rcases Nat.le_total 12 l.length with h | h
        · rw [Nat.min_eq_left h]
        · rw [Nat.min_eq_right h, List.take_length, List.take_of_length_le h]
      have HFIN := Lib.hid (And.intro hfin (show RowsA wr w.heap.size (.slice ar xs.length cr) xs from ⟨by rw [HR.out.1]; exact HR.out.2.1, fun x hx => (HR.out.2.2.1 x hx).below HB.out⟩))
      have c0 := HF.out.1.at0
      have c2 := HF.out.2.2.at0
      have c3 := HF.out.2.2.at1
      have z1 := HF.out.2.1.free 0
      have z11 := HF.out.2.1.free 1
      have r0 := HF.out.2.1.at0
      have r1 := HF.out.2.1.at1
      have hxl := HR.out.1
      by_cases hl1 : k < n
      · have hl2 : k = 12 := by omega
        have d1 : decide ((k : Int) < (n : Int)) = true := by simp; omega
        have d2 : decide ((k : Int) < 12) = false := by simp; omega
        clear hfin hlt e0 hxl
        go_wp2
        obtain ⟨W, hW⟩ : ∃ W, W = (wr.setCell ⟨w.heap.size + 1, 0, none⟩ (.slice ar 12 cr)).setCell ⟨w.heap.size + 1, 1, none⟩ (.int .u64 (init : Int)) := ⟨_, rfl⟩
        have hf3 := (HF.out.2.1.set0 (.slice ar 12 cr)).set1 init
        have hk3 := (kp_set wr (w.heap.size + 1) 0 (.slice ar 12 cr)).trans (kp_set _ (w.heap.size + 1) 1 (.int .u64 (init : Int))) (fun g e => .inl e)
        rw [← hW] at hf3 hk3 ⊢
        clear hW
        have q1 := hf3.at0
        have q2 := hf3.at1
        simp [bodyPost, results, Tryd.results9, go_sem, q1, q2]
        have hBW : Below w.heap.size w W := ((Kp.below (M := fun g => w.heap.size ≤ g) HB.out).trans hk3 (fun g e => .inl (by omega))).to (Nat.le_refl _) fun g e => e
        refine ⟨ar, cr, xs, ⟨rfl, by rw [HR.out.1]; try omega, rfl⟩, ⟨owns_same HFIN.out.2.1 fun g hg => hk3.block g (HFIN.out.2.1.lt g hg).2 (fun e => ?_), fun x hx => (HR.out.2.2.1 x hx).below hBW⟩, HFIN.out.1, hBW⟩
        rw [e] at hg
        exact fst_apart HF.out.2.1 HFIN.out.2.1 hg
      · have d1 : decide ((k : Int) < (n : Int)) = false := by simp; omega
        clear hfin hlt e0 hxl
        go_wp2
        obtain ⟨W, hW⟩ : ∃ W, W = (wr.setCell ⟨w.heap.size + 1, 0, none⟩ (.slice ar k cr)).setCell ⟨w.heap.size + 1, 1, none⟩ (.int .u64 (init : Int)) := ⟨_, rfl⟩
        have hf3 := (HF.out.2.1.set0 (.slice ar k cr)).set1 init
        have hk3 := (kp_set wr (w.heap.size + 1) 0 (.slice ar k cr)).trans (kp_set _ (w.heap.size + 1) 1 (.int .u64 (init : Int))) (fun g e => .inl e)
        rw [← hW] at hf3 hk3 ⊢
        clear hW
        have q1 := hf3.at0
        have q2 := hf3.at1
        simp [bodyPost, results, Tryd.results9, go_sem, q1, q2]
        have hBW : Below w.heap.size w W := ((Kp.below (M := fun g => w.heap.size ≤ g) HB.out).trans hk3 (fun g e => .inl (by omega))).to (Nat.le_refl _) fun g e => e
        refine ⟨ar, cr, xs, ⟨rfl, by rw [HR.out.1]; try omega, rfl⟩, ⟨owns_same HFIN.out.2.1 fun g hg => hk3.block g (HFIN.out.2.1.lt g hg).2 (fun e => ?_), fun x hx => (HR.out.2.2.1 x hx).below hBW⟩, HFIN.out.1, hBW⟩
        rw [e] at hg
        exact fst_apart HF.out.2.1 HFIN.out.2.1 hg
end Go.Proofs.YtjiilmiikejnhaaDoor
namespace Go.Proofs.YtjiilmiikejnhaaDoor
open Go.RowKit Go.Shelf Said

theorem st_apart {w : World} {base p n : Nat} {f : Bool} {v u : Value} {xs : List DArc} (h : StB w p u f n) (hr : ARow w base v xs) : v.ownBlock ≠ some p := fun e => by
  obtain ⟨_, cs, fz, hc⟩ := owns_cells hr p e
  have h' : w.heap[p]? = some _ := h
  rw [h'] at hc
  cases hc
theorem fst_apartA {w : World} {base p n : Nat} {v u : Value} {xs : List DArc} (h : FstB w p u n) (hr : ARow w base v xs) : v.ownBlock ≠ some p := fun e => by
  obtain ⟨_, cs, fz, hc⟩ := owns_cells hr p e
  have h' : w.heap[p]? = some _ := h
  rw [h'] at hc
  cases hc
theorem rowsI_next {w1 w5 : World} {base q n : Nat} {xs : List (Value × DSt)} {y : Value × DSt} {v v5 v0 : Value} (hs : FstB w1 q v n) (hrow : RowsI w1 base v xs) (hy : ARow w1 base y.1 y.2.arcs) (hq : base ≤ q)
    (hA : Appd w1 base 64 v (xs.length + 1) (stsC xs ++ stC y) q 0 v0 v5 w5) :
    FstB (w5.setCell ⟨q, 0, none⟩ v5) q v5 n ∧ RowsI (w5.setCell ⟨q, 0, none⟩ v5) base v5 (xs ++ [y]) ∧ Kp (fun g => v.ownBlock = some g ∨ g = q) w1 (w5.setCell ⟨q, 0, none⟩ v5) := by
  obtain ⟨h1, h2, h3⟩ := srow_next hs hrow.1 hq hA
  refine ⟨h1, ⟨h2, fun x hx => ?_⟩, h3⟩
  have hold : ∀ x : Value × DSt, ARow w1 base x.1 x.2.arcs → ARow (w5.setCell ⟨q, 0, none⟩ v5) base x.1 x.2.arcs := fun x hx => hx.kp h3 fun g hg e => by
    obtain ⟨_, cs, fz, hc⟩ := owns_cells hx g hg
    rcases e with e | e
    · obtain ⟨_, cs', fz', hc'⟩ := owns_cells hrow.1 g e
      rw [hc] at hc'
      cases hc'
    · subst e
      exact fst_apartA hs hx hg
  rcases List.mem_append.1 hx with h | h
  · exact hold x (hrow.2 x h)
  · rw [List.mem_singleton.1 h]
    exact hold y hy
/-- An arc more stands in the row, and the row in the state's box. -/
theorem arow_next {w1 w5 : World} {base q n : Nat} {f : Bool} {l : List DArc} {y : DArc} {v v5 v0 : Value} (hs : StB w1 q v f n) (hrow : ARow w1 base v l)
    (hA : Appd w1 base 66 v (l.length + 1) (arcsC l ++ arcC y) q 0 v0 v5 w5) :
    StB (w5.setCell ⟨q, 0, none⟩ v5) q v5 f n ∧ ARow (w5.setCell ⟨q, 0, none⟩ v5) base v5 (l ++ [y]) ∧ Kp (fun g => v.ownBlock = some g ∨ g = q) w1 (w5.setCell ⟨q, 0, none⟩ v5) := by
  obtain ⟨a1, a2, a3', -, -⟩ := hA
  have hk := kp_set w5 q 0 v5
  have hs5 := hs.kp a2 (st_apart hs hrow)
  have nq : ∀ b, v5.ownBlock = some b → b ≠ q := fun b hb e => by
    subst e
    rcases a3' with e | e
    · rw [e] at hb
      exact st_apart hs hrow hb
    · have := e b hb
      have := hs.lt
      omega
  refine ⟨cells_setCell hs5 0 _, ?_, (a2.mono fun g e => .inl (.inl e)).trans hk (fun g e => .inl (.inr e))⟩
  unfold ARow
  rw [List.length_append, List.length_singleton, arcsC_snoc]
  exact owns_same a1 fun b hb => hk.block b (a1.lt b hb).2 (nq b hb)
theorem ARow.form' {w : World} {base : Nat} {v : Value} {l : List DArc} (h : ARow w base v l) : ∃ ad c, v = .slice ad l.length c := by
  obtain ⟨ad, c, e, -⟩ := h.arcs
  exact ⟨ad, c, e⟩

theorem fst_cell {w : World} {p n o : Nat} {v : Value} (h : FstB w p v n) : w.cell? ⟨p, o, none⟩ = (#[v, Value.int .u64 (n : Int)] : Array Value)[o]? := by
  rw [cell_of_row w p o _ _ _ h]
theorem ArcIn.ne {w : World} {b o p n : Nat} {a : DArc} {v : Value} {ad : Option Addr} {k c : Nat} (h : ArcIn w b o a) (hf : FstB w p v n) (hv : v = .slice ad k c) : b ≠ p := fun e => by
  subst e hv
  have h0 := h.1
  rw [fst_cell hf] at h0
  match o, h0 with
  | 0, h0 => simp at h0
  | 1, h0 => simp at h0
  | o + 2, h0 => simp at h0
theorem bool_ne {w : World} {b o p n : Nat} {f : Bool} {v : Value} (h : w.cell? ⟨b, o + 1, none⟩ = some (.bool f)) (hf : FstB w p v n) : b ≠ p := fun e => by
  subst e
  rw [fst_cell hf] at h
  match o, h with
  | 0, h => simp at h
  | o + 1, h => simp at h
theorem Sts.set {w w' : World} {p n : Nat} {v u : Value} {l : List DSt} {ad : Option Addr} {k c : Nat} (h : Sts w v l) (hf : FstB w p u n) (hu : u = .slice ad k c) (hk : Kp (fun g => g = p) w w') : Sts w' v l := by
  obtain ⟨ad', c', rfl, hc⟩ := h
  refine ⟨ad', c', rfl, fun i hi => ?_⟩
  obtain ⟨b, o, e, x, h1, h2, h3, ad2, c2, rfl, h4⟩ := hc i hi
  have hs := hk.block b (block_lt_of_cell h1) (bool_ne h2 hf)
  refine ⟨b, o, e, _, (cell_same hs).trans h1, (cell_same hs).trans h2, (cell_same hs).trans h3, ad2, c2, rfl, fun j hj => ?_⟩
  obtain ⟨b', o', e', hE⟩ := h4 j hj
  exact ⟨b', o', e', hE.kept (hk.block b' hE.lt (hE.ne hf hu))⟩

theorem fst_out {w W : World} {p init : Nat} {v : Value} {S : List DSt} {ad : Option Addr} {k c : Nat} (hf : FstB w p (.slice none 0 0) 0) (hS : Sts w v S) (_hv : v = .slice ad k c) (hW : W = (w.setCell ⟨p, 0, none⟩ v).setCell ⟨p, 1, none⟩ (.int .u64 (init : Int))) :
    FstB W p v init ∧ Sts W v S ∧ Kp (fun g => g = p) w W := by
  have hk := (kp_set w p 0 v).trans (kp_set _ p 1 (.int .u64 (init : Int))) (fun g e => .inl e)
  rw [← hW] at hk
  refine ⟨by rw [hW]; exact (hf.set0 v).set1 init, hS.set hf rfl hk, hk⟩

set_option maxHeartbeats 4000000 in
set_option maxRecDepth 100000 in
theorem formed_any {w : World} {v : Value} {l : List DSt} {init : Nat} (h : StsC w v l) :
    Calls Tryd.prog 10 #[.agg #[v, .int .u64 (init : Int)]] w fun e w' => ∃ ad c, e = .returned (.agg #[.slice ad (formedT l).length c, .int .u64 (init : Int)]) ∧ Sts w' (.slice ad (formedT l).length c) (formedT l) ∧ Below w.heap.size w w' := by
  have hst := h
  obtain ⟨ad, c, rfl, hc⟩ := h
  obtain ⟨n, hn⟩ : ∃ n, l.length = n := ⟨_, rfl⟩
  rw [hn] at hst hc ⊢
  obtain ⟨w0, hw0⟩ : ∃ w0, w0 = (w.alloc (.cells #[.slice ad n c, .int .u64 (init : Int)] 25)).alloc (.cells #[.slice none 0 0, .int .u64 0] 25) := ⟨_, rfl⟩
  have hb0 : Below w.heap.size w w0 := by rw [hw0]; exact (below_alloc w _).alloc (by simp) _
  have f0 : FstB w0 w.heap.size (.slice ad n c) init := by rw [hw0]; exact (alloc_old _ _ (by simp)).trans (heap_alloc_new w _)
  have f1 : FstB w0 (w.heap.size + 1) (.slice none 0 0) 0 := by rw [hw0]; exact alloc_at _ _ (by simp)
  have Q := Lib.hid (few_any (init := init) (hst.below hb0))
  have H0 := Lib.hid (And.intro hb0 (And.intro f0 f1))
  have z0 := f0.at0
  have z1 := f0.at1
  clear hc hst hb0 f0 f1
  go_enter Tryd.func10, Tryd.ntmps10
  go_upto_region 1 with fail
  rw [← hw0]
  clear hw0
  go_wp2_with (go_at_call 9
               (with_reducible refine Q.out.mono ?_)
               go_loud (
               rintro e' w1 ⟨a1, c1, ys, rfl, hr1, hm1, hb1⟩
               have f0 := FstB.kp H0.out.2.1 (Kp.below (M := fun _ => False) hb1) (fun h => h)
               have x0 := f0.at0
               have x1 := f0.at1
               have x2 := f0.free 0
               have x3 := f0.free 1
               have H1 := Lib.hid (And.intro hr1 (And.intro hm1 (And.intro hb1 (And.intro f0 (FstB.kp H0.out.2.2 (Kp.below (M := fun _ => False) hb1) (fun h => h))))))
               clear hr1 hm1 hb1 f0))
  obtain ⟨w1s, hw1s⟩ : ∃ w1s, w1s = (w1.setCell ⟨w.heap.size, 0, none⟩ (.slice a1 ys.length c1)).setCell ⟨w.heap.size, 1, none⟩ (.int .u64 (init : Int)) := ⟨_, rfl⟩
  have hsz : w1s.heap.size = w1.heap.size := by rw [hw1s]; simp [World.setCell]
  have hkk := (kp_set w1 w.heap.size 0 (.slice a1 ys.length c1)).trans (kp_set _ w.heap.size 1 (.int .u64 (init : Int))) (fun g e => .inl e)
  have hf1 := (H1.out.2.2.2.1.set0 (.slice a1 ys.length c1)).set1 init
  rw [← hw1s] at hkk hf1 ⊢
  rw [← hsz]
  have hsts : Sts w1s (.slice a1 ys.length c1) (fewT l) := by
    have := H1.out.1.sts
    rw [H1.out.2.1] at this
    exact this.set H1.out.2.2.2.1 rfl hkk
  have hyl : (fewT l).length = ys.length := by rw [← H1.out.2.1]; simp
  obtain ⟨F, hF⟩ : ∃ F, F = fewT l := ⟨_, rfl⟩
  have hform : formedT l = if n = 0 then [⟨[], false, 0⟩] else formSs 0 F := by
    unfold formedT
    rw [hF, ← hn]
    cases l <;> simp
  rw [← hF] at hsts hyl
  have hF12 : F.length ≤ 12 ∧ (F.length = 0 ↔ n = 0) := by rw [hF, fewT_length, hn]; omega
  have hF6 : ∀ s ∈ F, s.arcs.length ≤ 6 := by rw [hF]; exact fewT_arcs l
  obtain ⟨m, hm⟩ : ∃ m, ys.length = m := ⟨_, rfl⟩
  rw [hm] at hsts hyl hf1 ⊢
  have hb0 : Below w.heap.size w w1s := ((Kp.below (M := fun g => w.heap.size ≤ g) (H0.out.1.trans (H1.out.2.2.1.mono H0.out.1.size))).trans hkk (fun g e => .inl (by omega))).to (Nat.le_refl _) fun g e => e
  have hf2 : FstB w1s (w.heap.size + 1) (.slice none 0 0) 0 := H1.out.2.2.2.2.kp hkk (by omega)
  have hlt1 := hf2.lt
  have HG := Lib.hid (And.intro hsts (And.intro hyl (And.intro hform (And.intro hF12 (And.intro hF6 (And.intro hb0 (And.intro hf1 hf2)))))))
  have hm12 : m ≤ 12 := by omega
  clear hsts hyl hform hF12 hF6 hb0 hf1 hf2 hw1s hsz hkk hm hF hn z0 z1 x0 x1 x2 x3
  go_wp2
  go_loopw [4] (fun s4 wr => ∃ (k : Nat) (xs : List (Value × DSt)) (ar : Option Addr) (cr : Nat), k ≤ m ∧ s4 = .int .i64 k ∧ Hid (xs.length = k ∧ RowsI wr w1s.heap.size (.slice ar k cr) xs ∧ xs.map (·.2) = formSs 0 (F.take k)) ∧ Hid (FstB wr w1s.heap.size (.slice ar k cr) init ∧ w1s.heap.size < wr.heap.size) ∧ Hid (Below w1s.heap.size w1s wr)) (fun s4 _ => m - (intOf s4).toNat)
  case atStart => exact ⟨0, [], none, 0, Nat.zero_le _, rfl, Lib.hid ⟨rfl, ⟨World.ownsRow_nil _ _ 64 3, List.forall_mem_nil _⟩, rfl⟩, Lib.hid ⟨alloc_at _ _ rfl, by simp⟩, Lib.hid (below_alloc _ _)⟩
  case round =>
    obtain ⟨k, xs, ar, cr, hk, rfl, HR, HF, HB⟩ := hrel
    by_cases hlt : k < m
    · obtain ⟨ad', c', e, hc⟩ := HG.out.1.below HB.out
      injection e with i1 i2 i3
      obtain ⟨b, o, had, u, h1, h2, h3, e1, q1, rfl, h4⟩ := hc k (by rw [HG.out.2.1]; exact hlt)
      have ha1 := i1.trans had
      subst ha1
      clear hc i1 i2 i3 had
      have hmem : stAt F k = F[k]'(by rw [HG.out.2.1]; exact hlt) := stAt_lt _
      obtain ⟨y, hy⟩ : ∃ y, stAt F k = y := ⟨_, rfl⟩
      rw [hy] at h1 h2 h3 h4 hmem
      obtain ⟨na, hna⟩ : ∃ na, y.arcs.length = na := ⟨_, rfl⟩
      obtain ⟨f, hf⟩ : ∃ f, y.fin = f := ⟨_, rfl⟩
      have hna6 : na ≤ 6 := by rw [← hna]; exact HG.out.2.2.2.2.1 y (by rw [hmem]; exact List.getElem_mem _)
      rw [hna] at h1
      rw [hf] at h2
      have d1 : decide ((k : Int) < (m : Int)) = true := by simp; omega
      have il : (k : Int) < (m : Int) := by omega
      have f0 := FstB.kp HG.out.2.2.2.2.2.2.1 (Kp.below (M := fun _ => False) HB.out) (fun h => h)
      have c0 := f0.at0
      have cc0 := fun ob => FstB.at0 (f0.kp (Kp.below (M := fun _ => False) (below_alloc wr ob)) (fun h => h))
      have hh1 := fun ob => (cell_same (p := ⟨b, o + k * 3, none⟩) (alloc_old wr ob (block_lt_of_cell h1))).trans h1
      have hh3 := fun ob => (cell_same (p := ⟨b, o + k * 3 + 2, none⟩) (alloc_old wr ob (block_lt_of_cell h3))).trans h3
      have HY := Lib.hid (And.intro hmem (And.intro hna (And.intro hf (And.intro h4 (And.intro f0 (And.intro h1 (And.intro h2 h3)))))))
      have HLE := Lib.hid HB.out.size
      clear h3 h4 hmem hy hna hf f0
      cases f
      · go_wp2
        obtain ⟨wo, hwo⟩ : ∃ wo, wo = wr := ⟨_, rfl⟩
        subst hwo
        obtain ⟨O, hO⟩ : ∃ O : Nat, O = 0 := ⟨_, rfl⟩
        obtain ⟨W2, hW2⟩ : ∃ W2, W2 = wo.alloc (.cells #[.slice none 0 0, .bool false, .int .u64 (0 : Int)] 64) := ⟨_, rfl⟩
        have hs2 : StB W2 wo.heap.size (.slice none 0 0) false O := by rw [hW2, hO]; exact alloc_at _ _ rfl
        have hb2 : Below wo.heap.size wo W2 := by rw [hW2]; exact below_alloc _ _
        have hl2 : wo.heap.size < W2.heap.size := by rw [hW2]; simp
        rw [← hW2]
        have HO := Lib.hid hO
        have H2 := Lib.hid (And.intro hs2 (And.intro hb2 hl2))
        clear hW2 hO hs2 hb2 hl2 hh1 hh3 cc0
        go_loopw [6] (fun s6 W => ∃ (j : Nat) (zs : List DArc) (av : Option Addr) (cv : Nat), j ≤ na ∧ (k = 0 → j = 0) ∧ s6 = .int .i64 j ∧ Hid (zs.length = j ∧ zs = (y.arcs.take j).map (formA k)) ∧ Hid (ARow W wo.heap.size (.slice av j cv) zs ∧ StB W wo.heap.size (.slice av j cv) false O) ∧ Hid (Below wo.heap.size wo W)) (fun s6 _ => na - (intOf s6).toNat)
        case atStart => exact ⟨0, [], none, 0, Nat.zero_le _, fun _ => rfl, rfl, Lib.hid ⟨rfl, rfl⟩, Lib.hid ⟨World.ownsRow_nil _ _ 66 3, H2.out.1⟩, Lib.hid H2.out.2.1⟩
        case round =>
          obtain ⟨j, zs, av, cv, hj, hkj, rfl, JZ, JS, JB⟩ := hrel
          have g0 := FstB.kp HY.out.2.2.2.2.1 (Kp.below (M := fun _ => False) JB.out) (fun h => h)
          have c1' := g0.at0
          have hbb := block_lt_of_cell h1
          have g1 := (cell_same (p := ⟨b, o + k * 3, none⟩) (JB.out.block b hbb)).trans HY.out.2.2.2.2.2.1
          by_cases hlj : j < na ∧ 0 < k
          · obtain ⟨hj1, hk1⟩ := hlj
            obtain ⟨b', o', e', hE⟩ := HY.out.2.2.2.1 j (by rw [HY.out.2.1]; exact hj1)
            subst e'
            obtain ⟨x, hx⟩ : ∃ x, arcAt y.arcs j = x := ⟨_, rfl⟩
            rw [hx] at hE
            obtain ⟨g2, g3, g4⟩ := hE.kept (JB.out.block b' hE.lt)
            obtain ⟨r, hr⟩ : ∃ r : Nat, x.to % 4294967296 = (r : Int) := ⟨(x.to % 4294967296).toNat, by omega⟩
            obtain ⟨q, hq⟩ : ∃ q : Nat, r % k = q := ⟨_, rfl⟩
            have hrem : x.to % 4294967296 % (k : Int) = (q : Int) := by rw [hr, ← hq]; rfl
            have hk0 : ¬ ((k : Int) = 0) := by omega
            have i2 : (j : Int) < (na : Int) := by omega
            have d2 : decide ((j : Int) < (na : Int)) = true := by simp; omega
            have d22 : decide (j < na) = true := by simp; omega
            have d33 : decide (0 < k) = true := by simp; omega
            have d3 : decide ((0 : Int) < (k : Int)) = true := by simp; omega
            have HX := Lib.hid (And.intro hx (And.intro hr (And.intro hq hkj)))
            have y0 := fun ob => StB.at0 (JS.out.2.kp (Kp.below (M := fun _ => False) (below_alloc wr ob)) (fun h => h))
            obtain ⟨ob, hob⟩ : ∃ ob, ob = Obj.cells #[.int .u8 (x.b : Int), .int .u64 (x.out : Int), .int .i64 (q : Int)] 66 (0, 0) := ⟨_, rfl⟩
            have HA : ARow (wr.alloc ob) wo.heap.size (.slice av j cv) zs := owns_same JS.out.1 fun g hg => alloc_old _ _ (JS.out.1.lt g hg).2
            have HBB : StB (wr.alloc ob) wo.heap.size (.slice av j cv) false O := JS.out.2.kp (Kp.below (M := fun _ => False) (below_alloc wr ob)) (fun h => h)
            have HA' := HA
            unfold ARow at HA'
            rw [JZ.out.1] at HA'
            have HW := Lib.hid (And.intro (show ((wr.alloc ob).alloc ob).heap[wr.heap.size + 1]? = some ob from alloc_at _ _ (by simp)) (And.intro HA' (And.intro (show j ≤ 100000 by omega) (And.intro (show wo.heap.size ≤ (wr.alloc ob).heap.size by have := JB.out.size; simp; omega)
              (And.intro (show ∀ u ∈ [Value.int .u8 (x.b : Int), .int .u64 (x.out : Int), .int .i64 (q : Int)], u.oneCell' = true by intro u hu; simp at hu; rcases hu with rfl | rfl | rfl <;> rfl) (And.intro (st_apart HBB HA) (And.intro HBB.at0 (And.intro (HBB.free 0) HBB.lt))))))))
            have HNX := Lib.hid (And.intro HBB HA)
            rw [hob] at HW HNX
            clear hx hE hkj HA HBB HA' hob hr hq
            go_wp2_with (at_builtin
                         go_loud (refine wpList_append_row (w2 := wr.alloc (.cells #[.int .u8 (x.b : Int), .int .u64 (x.out : Int), .int .i64 (q : Int)] 66)) (vs := .slice av j cv) rfl (.tmp 68) (.tmp 70) rfl rfl Tryd.underlying62 iArc rfl (by decide) wo.heap.size wo.heap.size 0 (.slice av j cv) j (arcsC zs) [.int .u8 (x.b : Int), .int .u64 (x.out : Int), .int .i64 (q : Int)] (wr.heap.size + 1) rfl rfl HW.out.1 (below_alloc _ _) HW.out.2.1 HW.out.2.2.1 HW.out.2.2.2.1 rfl HW.out.2.2.2.2.1 HW.out.2.2.2.2.2.1 HW.out.2.2.2.2.2.2.1 HW.out.2.2.2.2.2.2.2.1 HW.out.2.2.2.2.2.2.2.2 ?_)
                         intro a5 n5 c5 w5 hA5 r1 r2
                         have HA5 := Lib.hid hA5
                         clear hA5 y0)
            obtain ⟨n1, n2, n3⟩ := arow_next (y := ⟨x.b, x.out, (q : Int)⟩) (v5 := .slice a5 n5 c5) HNX.out.1 HNX.out.2 (by rw [JZ.out.1]; exact HA5.out)
            obtain ⟨ar', cr', e⟩ := n2.form'
            injection e with i1 i2 i3
            subst i1 i2 i3
            have hlen : (zs ++ [(⟨x.b, x.out, (q : Int)⟩ : DArc)]).length = j + 1 := by simp [JZ.out.1]
            rw [hlen] at n1 n2 n3 ⊢
            refine ⟨⟨j + 1, zs ++ [(⟨x.b, x.out, (q : Int)⟩ : DArc)], a5, c5, by omega, fun h => by omega, by go_num, Lib.hid ⟨hlen, ?_⟩, Lib.hid ⟨n2, n1⟩, Lib.hid (((Kp.below (M := fun g => wo.heap.size ≤ g) JB.out).trans (((Kp.below (M := fun _ => False) (below_alloc wr _)).mono (N := fun g => wo.heap.size ≤ g) (fun g h => absurd h (fun h => h))).trans n3 (fun g e => .inl ?_)) (fun g e => .inl e)).to (Nat.le_refl _) fun g e => e)⟩, by simp [intOf]; omega⟩
            · obtain ⟨x1, x2, x3, x4⟩ := HX.out
              have hjl : j < y.arcs.length := by rw [HY.out.2.1]; exact hj1
              rw [List.take_succ_eq_append_getElem hjl, List.map_append, ← JZ.out.2]
              congr 1
              rw [arcAt_lt hjl] at x1
              rw [x1]
              simp only [List.map_cons, List.map_nil, formA, x2, Int.toNat_natCast, x3]
            · rcases e with e | e
              · exact (JS.out.1.lt g e).1
              · omega
          · have hje : j = na ∨ k = 0 := by omega
            have i0 := FstB.kp HF.out.1 (Kp.below (M := fun _ => False) JB.out) (fun h => h)
            have r0 : RowsI wr w1s.heap.size (.slice ar k cr) xs := HR.out.2.1.kp (Kp.below (M := fun _ => False) JB.out) (fun _ _ _ _ _ h => h)
            have y0 := JS.out.2.at0
            have y1 := JS.out.2.at1
            have y2 := JS.out.2.at2
            have i1 := fun ob => FstB.at0 (i0.kp (Kp.below (M := fun _ => False) (below_alloc wr ob)) (fun h => h))
            have i11 := i0.at0
            have hr0 := r0.1
            unfold SRow at hr0
            rw [HR.out.1] at hr0
            have hya : ARow wr w1s.heap.size (.slice av j cv) zs := owns_base JS.out.1 HLE.out
            have HW := Lib.hid (And.intro (show (wr.alloc (.cells #[.slice av j cv, .bool false, .int .u64 (O : Int)] 64)).heap[wr.heap.size]? = some (.cells #[.slice av j cv, .bool false, .int .u64 (O : Int)] 64 (0, 0)) from heap_alloc_new wr _) (And.intro hr0 (And.intro (show k ≤ 100000 by omega) (And.intro (show w1s.heap.size ≤ wr.heap.size by have := JB.out.size; have := HLE.out; omega)
              (And.intro (show ∀ u ∈ [Value.slice av j cv, .bool false, .int .u64 (O : Int)], u.oneCell' = true by intro u hu; simp at hu; rcases hu with rfl | rfl | rfl <;> rfl) (And.intro (fst_apart i0 r0.1) (And.intro i0.at0 (And.intro (i0.free 0) i0.lt))))))))
            have HNX := Lib.hid (And.intro i0 (And.intro r0 hya))
            have HJE := Lib.hid (And.intro hje hkj)
            clear i0 r0 hr0 hya
            have hdd : decide ((j : Int) < (na : Int)) = false ∨ (decide ((j : Int) < (na : Int)) = true ∧ decide ((0 : Int) < (k : Int)) = false) := by
              rcases Nat.lt_or_ge j na with h | h
              · exact .inr ⟨by simp; omega, by simp; omega⟩
              · exact .inl (by simp; omega)
            have hend : Hid (∀ a5 n5 c5 w5, Appd wr w1s.heap.size 64 (.slice ar k cr) (k + 1) (stsC xs ++ [.slice av j cv, .bool false, .int .u64 (O : Int)]) w1s.heap.size 0 (.slice ar k cr) (.slice a5 n5 c5) w5 →
                n5 = k + 1 ∧ (xs ++ [((.slice av j cv, ⟨zs, false, O⟩) : Value × DSt)]).length = k + 1 ∧ RowsI (w5.setCell ⟨w1s.heap.size, 0, none⟩ (.slice a5 (k + 1) c5)) w1s.heap.size (.slice a5 (k + 1) c5) (xs ++ [((.slice av j cv, ⟨zs, false, O⟩) : Value × DSt)]) ∧ (xs ++ [((.slice av j cv, ⟨zs, false, O⟩) : Value × DSt)]).map (·.2) = formSs 0 (F.take (k + 1)) ∧
                FstB (w5.setCell ⟨w1s.heap.size, 0, none⟩ (.slice a5 (k + 1) c5)) w1s.heap.size (.slice a5 (k + 1) c5) init ∧ w1s.heap.size < (w5.setCell ⟨w1s.heap.size, 0, none⟩ (.slice a5 (k + 1) c5)).heap.size ∧ Below w1s.heap.size w1s (w5.setCell ⟨w1s.heap.size, 0, none⟩ (.slice a5 (k + 1) c5))) := Lib.hid fun a5 n5 c5 w5 hA => by
              obtain ⟨n1, n2, n3⟩ := rowsI_next (y := (.slice av j cv, ⟨zs, false, O⟩)) (v5 := .slice a5 n5 c5) HNX.out.1 HNX.out.2.1 HNX.out.2.2 (Nat.le_refl _) (by rw [HR.out.1]; exact hA)
              obtain ⟨ar', cr', e⟩ := n2.1.form
              injection e with i1 i2 i3
              subst i1 i2 i3
              have hlen : (xs ++ [((.slice av j cv, ⟨zs, false, O⟩) : Value × DSt)]).length = k + 1 := by simp [HR.out.1]
              rw [hlen] at n1 n2 n3 ⊢
              refine ⟨rfl, rfl, n2, ?_, n1, n1.lt, ((Kp.below (M := fun g => w1s.heap.size ≤ g) (HB.out.trans (JB.out.mono HLE.out))).trans n3 (fun g e => .inl ?_)).to (Nat.le_refl _) fun g e => e⟩
              · rw [List.map_append, HR.out.2.2, formSs_take (by rw [HG.out.2.1]; exact hlt), ← HY.out.1]
                congr 1
                have hyz : formS k y = ⟨zs, false, O⟩ := by
                  unfold formS
                  rw [HY.out.2.2.1, HO.out, JZ.out.2]
                  have hz : (if k = 0 then [] else y.arcs.map (formA k)) = (y.arcs.take j).map (formA k) := by
                    rcases HJE.out.1 with h | h
                    · split
                      · rename_i h0
                        rw [HJE.out.2 h0]; rfl
                      · rw [h, ← HY.out.2.1, List.take_length]
                    · rw [if_pos h, HJE.out.2 h]; rfl
                  rw [hz]
                  simp
                rw [hyz]
                rfl
              · rcases e with e | e
                · exact (HNX.out.2.1.1.lt g e).1
                · omega
            rcases hdd with d4 | ⟨d4, d5⟩
            · have d6 : decide (j < na) = false := by simp at d4 ⊢; omega
              go_wp2_with (at_builtin
                           go_loud (refine wpList_append_row (w2 := wr) (vs := .slice ar k cr) rfl (.tmp 74) (.tmp 76) rfl rfl Tryd.underlying22 iState rfl (by decide) w1s.heap.size w1s.heap.size 0 (.slice ar k cr) k (stsC xs) [.slice av j cv, .bool false, .int .u64 (O : Int)] wr.heap.size rfl rfl HW.out.1 (below_alloc _ _) HW.out.2.1 HW.out.2.2.1 HW.out.2.2.2.1 rfl HW.out.2.2.2.2.1 HW.out.2.2.2.2.2.1 HW.out.2.2.2.2.2.2.1 HW.out.2.2.2.2.2.2.2.1 HW.out.2.2.2.2.2.2.2.2 ?_)
                           intro a5 n5 c5 w5 hA5 r1 r2
                           obtain ⟨rfl, hz⟩ := hend.out _ _ _ _ hA5
                           have HZ := Lib.hid hz
                           clear hA5 hz i1 i11)
              exact ⟨⟨k + 1, _, a5, c5, by omega, by go_num, Lib.hid ⟨HZ.out.1, HZ.out.2.1, HZ.out.2.2.1⟩, Lib.hid ⟨HZ.out.2.2.2.1, HZ.out.2.2.2.2.1⟩, Lib.hid HZ.out.2.2.2.2.2⟩, by simp [intOf]; omega⟩
            · have d6 : decide (j < na) = true := by simp at d4 ⊢; omega
              have d7 : decide (0 < k) = false := by simp at d5 ⊢; omega
              go_wp2_with (at_builtin
                           go_loud (refine wpList_append_row (w2 := wr) (vs := .slice ar k cr) rfl (.tmp 74) (.tmp 76) rfl rfl Tryd.underlying22 iState rfl (by decide) w1s.heap.size w1s.heap.size 0 (.slice ar k cr) k (stsC xs) [.slice av j cv, .bool false, .int .u64 (O : Int)] wr.heap.size rfl rfl HW.out.1 (below_alloc _ _) HW.out.2.1 HW.out.2.2.1 HW.out.2.2.2.1 rfl HW.out.2.2.2.2.1 HW.out.2.2.2.2.2.1 HW.out.2.2.2.2.2.2.1 HW.out.2.2.2.2.2.2.2.1 HW.out.2.2.2.2.2.2.2.2 ?_)
                           intro a5 n5 c5 w5 hA5 r1 r2
                           obtain ⟨rfl, hz⟩ := hend.out _ _ _ _ hA5
                           have HZ := Lib.hid hz
                           clear hA5 hz i1 i11)
              exact ⟨⟨k + 1, _, a5, c5, by omega, by go_num, Lib.hid ⟨HZ.out.1, HZ.out.2.1, HZ.out.2.2.1⟩, Lib.hid ⟨HZ.out.2.2.2.1, HZ.out.2.2.2.2.1⟩, Lib.hid HZ.out.2.2.2.2.2⟩, by simp [intOf]; omega⟩
      · go_wp2
        obtain ⟨wo, hwo⟩ : ∃ wo, wo = wr := ⟨_, rfl⟩
        subst hwo
        obtain ⟨O, hO⟩ : ∃ O : Nat, O = y.out := ⟨_, rfl⟩
        obtain ⟨W2, hW2⟩ : ∃ W2, W2 = wo.alloc (.cells #[.slice none 0 0, .bool true, .int .u64 (y.out : Int)] 64) := ⟨_, rfl⟩
        have hs2 : StB W2 wo.heap.size (.slice none 0 0) true O := by rw [hW2, hO]; exact alloc_at _ _ rfl
        have hb2 : Below wo.heap.size wo W2 := by rw [hW2]; exact below_alloc _ _
        have hl2 : wo.heap.size < W2.heap.size := by rw [hW2]; simp
        rw [← hW2]
        have HO := Lib.hid hO
        have H2 := Lib.hid (And.intro hs2 (And.intro hb2 hl2))
        clear hW2 hO hs2 hb2 hl2 hh1 hh3 cc0
        go_loopw [6] (fun s6 W => ∃ (j : Nat) (zs : List DArc) (av : Option Addr) (cv : Nat), j ≤ na ∧ (k = 0 → j = 0) ∧ s6 = .int .i64 j ∧ Hid (zs.length = j ∧ zs = (y.arcs.take j).map (formA k)) ∧ Hid (ARow W wo.heap.size (.slice av j cv) zs ∧ StB W wo.heap.size (.slice av j cv) true O) ∧ Hid (Below wo.heap.size wo W)) (fun s6 _ => na - (intOf s6).toNat)
        case atStart => exact ⟨0, [], none, 0, Nat.zero_le _, fun _ => rfl, rfl, Lib.hid ⟨rfl, rfl⟩, Lib.hid ⟨World.ownsRow_nil _ _ 66 3, H2.out.1⟩, Lib.hid H2.out.2.1⟩
        case round =>
          obtain ⟨j, zs, av, cv, hj, hkj, rfl, JZ, JS, JB⟩ := hrel
          have g0 := FstB.kp HY.out.2.2.2.2.1 (Kp.below (M := fun _ => False) JB.out) (fun h => h)
          have c1' := g0.at0
          have hbb := block_lt_of_cell h1
          have g1 := (cell_same (p := ⟨b, o + k * 3, none⟩) (JB.out.block b hbb)).trans HY.out.2.2.2.2.2.1
          by_cases hlj : j < na ∧ 0 < k
          · obtain ⟨hj1, hk1⟩ := hlj
            obtain ⟨b', o', e', hE⟩ := HY.out.2.2.2.1 j (by rw [HY.out.2.1]; exact hj1)
            subst e'
            obtain ⟨x, hx⟩ : ∃ x, arcAt y.arcs j = x := ⟨_, rfl⟩
            rw [hx] at hE
            obtain ⟨g2, g3, g4⟩ := hE.kept (JB.out.block b' hE.lt)
            obtain ⟨r, hr⟩ : ∃ r : Nat, x.to % 4294967296 = (r : Int) := ⟨(x.to % 4294967296).toNat, by omega⟩
            obtain ⟨q, hq⟩ : ∃ q : Nat, r % k = q := ⟨_, rfl⟩
            have hrem : x.to % 4294967296 % (k : Int) = (q : Int) := by rw [hr, ← hq]; rfl
            have hk0 : ¬ ((k : Int) = 0) := by omega
            have i2 : (j : Int) < (na : Int) := by omega
            have d2 : decide ((j : Int) < (na : Int)) = true := by simp; omega
            have d22 : decide (j < na) = true := by simp; omega
            have d33 : decide (0 < k) = true := by simp; omega
            have d3 : decide ((0 : Int) < (k : Int)) = true := by simp; omega
            have HX := Lib.hid (And.intro hx (And.intro hr (And.intro hq hkj)))
            have y0 := fun ob => StB.at0 (JS.out.2.kp (Kp.below (M := fun _ => False) (below_alloc wr ob)) (fun h => h))
            obtain ⟨ob, hob⟩ : ∃ ob, ob = Obj.cells #[.int .u8 (x.b : Int), .int .u64 (x.out : Int), .int .i64 (q : Int)] 66 (0, 0) := ⟨_, rfl⟩
            have HA : ARow (wr.alloc ob) wo.heap.size (.slice av j cv) zs := owns_same JS.out.1 fun g hg => alloc_old _ _ (JS.out.1.lt g hg).2
            have HBB : StB (wr.alloc ob) wo.heap.size (.slice av j cv) true O := JS.out.2.kp (Kp.below (M := fun _ => False) (below_alloc wr ob)) (fun h => h)
            have HA' := HA
            unfold ARow at HA'
            rw [JZ.out.1] at HA'
            have HW := Lib.hid (And.intro (show ((wr.alloc ob).alloc ob).heap[wr.heap.size + 1]? = some ob from alloc_at _ _ (by simp)) (And.intro HA' (And.intro (show j ≤ 100000 by omega) (And.intro (show wo.heap.size ≤ (wr.alloc ob).heap.size by have := JB.out.size; simp; omega)
              (And.intro (show ∀ u ∈ [Value.int .u8 (x.b : Int), .int .u64 (x.out : Int), .int .i64 (q : Int)], u.oneCell' = true by intro u hu; simp at hu; rcases hu with rfl | rfl | rfl <;> rfl) (And.intro (st_apart HBB HA) (And.intro HBB.at0 (And.intro (HBB.free 0) HBB.lt))))))))
            have HNX := Lib.hid (And.intro HBB HA)
            rw [hob] at HW HNX
            clear hx hE hkj HA HBB HA' hob hr hq
            go_wp2_with (at_builtin
                         go_loud (refine wpList_append_row (w2 := wr.alloc (.cells #[.int .u8 (x.b : Int), .int .u64 (x.out : Int), .int .i64 (q : Int)] 66)) (vs := .slice av j cv) rfl (.tmp 68) (.tmp 70) rfl rfl Tryd.underlying62 iArc rfl (by decide) wo.heap.size wo.heap.size 0 (.slice av j cv) j (arcsC zs) [.int .u8 (x.b : Int), .int .u64 (x.out : Int), .int .i64 (q : Int)] (wr.heap.size + 1) rfl rfl HW.out.1 (below_alloc _ _) HW.out.2.1 HW.out.2.2.1 HW.out.2.2.2.1 rfl HW.out.2.2.2.2.1 HW.out.2.2.2.2.2.1 HW.out.2.2.2.2.2.2.1 HW.out.2.2.2.2.2.2.2.1 HW.out.2.2.2.2.2.2.2.2 ?_)
                         intro a5 n5 c5 w5 hA5 r1 r2
                         have HA5 := Lib.hid hA5
                         clear hA5 y0)
            obtain ⟨n1, n2, n3⟩ := arow_next (y := ⟨x.b, x.out, (q : Int)⟩) (v5 := .slice a5 n5 c5) HNX.out.1 HNX.out.2 (by rw [JZ.out.1]; exact HA5.out)
            obtain ⟨ar', cr', e⟩ := n2.form'
            injection e with i1 i2 i3
            subst i1 i2 i3
            have hlen : (zs ++ [(⟨x.b, x.out, (q : Int)⟩ : DArc)]).length = j + 1 := by simp [JZ.out.1]
            rw [hlen] at n1 n2 n3 ⊢
            refine ⟨⟨j + 1, zs ++ [(⟨x.b, x.out, (q : Int)⟩ : DArc)], a5, c5, by omega, fun h => by omega, by go_num, Lib.hid ⟨hlen, ?_⟩, Lib.hid ⟨n2, n1⟩, Lib.hid (((Kp.below (M := fun g => wo.heap.size ≤ g) JB.out).trans (((Kp.below (M := fun _ => False) (below_alloc wr _)).mono (N := fun g => wo.heap.size ≤ g) (fun g h => absurd h (fun h => h))).trans n3 (fun g e => .inl ?_)) (fun g e => .inl e)).to (Nat.le_refl _) fun g e => e)⟩, by simp [intOf]; omega⟩
            · obtain ⟨x1, x2, x3, x4⟩ := HX.out
              have hjl : j < y.arcs.length := by rw [HY.out.2.1]; exact hj1
              rw [List.take_succ_eq_append_getElem hjl, List.map_append, ← JZ.out.2]
              congr 1
              rw [arcAt_lt hjl] at x1
              rw [x1]
              simp only [List.map_cons, List.map_nil, formA, x2, Int.toNat_natCast, x3]
            · rcases e with e | e
              · exact (JS.out.1.lt g e).1
              · omega
          · have hje : j = na ∨ k = 0 := by omega
            have i0 := FstB.kp HF.out.1 (Kp.below (M := fun _ => False) JB.out) (fun h => h)
            have r0 : RowsI wr w1s.heap.size (.slice ar k cr) xs := HR.out.2.1.kp (Kp.below (M := fun _ => False) JB.out) (fun _ _ _ _ _ h => h)
            have y0 := JS.out.2.at0
            have y1 := JS.out.2.at1
            have y2 := JS.out.2.at2
            have i1 := fun ob => FstB.at0 (i0.kp (Kp.below (M := fun _ => False) (below_alloc wr ob)) (fun h => h))
            have i11 := i0.at0
            have hr0 := r0.1
            unfold SRow at hr0
            rw [HR.out.1] at hr0
            have hya : ARow wr w1s.heap.size (.slice av j cv) zs := owns_base JS.out.1 HLE.out
            have HW := Lib.hid (And.intro (show (wr.alloc (.cells #[.slice av j cv, .bool true, .int .u64 (O : Int)] 64)).heap[wr.heap.size]? = some (.cells #[.slice av j cv, .bool true, .int .u64 (O : Int)] 64 (0, 0)) from heap_alloc_new wr _) (And.intro hr0 (And.intro (show k ≤ 100000 by omega) (And.intro (show w1s.heap.size ≤ wr.heap.size by have := JB.out.size; have := HLE.out; omega)
              (And.intro (show ∀ u ∈ [Value.slice av j cv, .bool true, .int .u64 (O : Int)], u.oneCell' = true by intro u hu; simp at hu; rcases hu with rfl | rfl | rfl <;> rfl) (And.intro (fst_apart i0 r0.1) (And.intro i0.at0 (And.intro (i0.free 0) i0.lt))))))))
            have HNX := Lib.hid (And.intro i0 (And.intro r0 hya))
            have HJE := Lib.hid (And.intro hje hkj)
            clear i0 r0 hr0 hya
            have hdd : decide ((j : Int) < (na : Int)) = false ∨ (decide ((j : Int) < (na : Int)) = true ∧ decide ((0 : Int) < (k : Int)) = false) := by
              rcases Nat.lt_or_ge j na with h | h
              · exact .inr ⟨by simp; omega, by simp; omega⟩
              · exact .inl (by simp; omega)
            have hend : Hid (∀ a5 n5 c5 w5, Appd wr w1s.heap.size 64 (.slice ar k cr) (k + 1) (stsC xs ++ [.slice av j cv, .bool true, .int .u64 (O : Int)]) w1s.heap.size 0 (.slice ar k cr) (.slice a5 n5 c5) w5 →
                n5 = k + 1 ∧ (xs ++ [((.slice av j cv, ⟨zs, true, O⟩) : Value × DSt)]).length = k + 1 ∧ RowsI (w5.setCell ⟨w1s.heap.size, 0, none⟩ (.slice a5 (k + 1) c5)) w1s.heap.size (.slice a5 (k + 1) c5) (xs ++ [((.slice av j cv, ⟨zs, true, O⟩) : Value × DSt)]) ∧ (xs ++ [((.slice av j cv, ⟨zs, true, O⟩) : Value × DSt)]).map (·.2) = formSs 0 (F.take (k + 1)) ∧
                FstB (w5.setCell ⟨w1s.heap.size, 0, none⟩ (.slice a5 (k + 1) c5)) w1s.heap.size (.slice a5 (k + 1) c5) init ∧ w1s.heap.size < (w5.setCell ⟨w1s.heap.size, 0, none⟩ (.slice a5 (k + 1) c5)).heap.size ∧ Below w1s.heap.size w1s (w5.setCell ⟨w1s.heap.size, 0, none⟩ (.slice a5 (k + 1) c5))) := Lib.hid fun a5 n5 c5 w5 hA => by
              obtain ⟨n1, n2, n3⟩ := rowsI_next (y := (.slice av j cv, ⟨zs, true, O⟩)) (v5 := .slice a5 n5 c5) HNX.out.1 HNX.out.2.1 HNX.out.2.2 (Nat.le_refl _) (by rw [HR.out.1]; exact hA)
              obtain ⟨ar', cr', e⟩ := n2.1.form
              injection e with i1 i2 i3
              subst i1 i2 i3
              have hlen : (xs ++ [((.slice av j cv, ⟨zs, true, O⟩) : Value × DSt)]).length = k + 1 := by simp [HR.out.1]
              rw [hlen] at n1 n2 n3 ⊢
              refine ⟨rfl, rfl, n2, ?_, n1, n1.lt, ((Kp.below (M := fun g => w1s.heap.size ≤ g) (HB.out.trans (JB.out.mono HLE.out))).trans n3 (fun g e => .inl ?_)).to (Nat.le_refl _) fun g e => e⟩
              · rw [List.map_append, HR.out.2.2, formSs_take (by rw [HG.out.2.1]; exact hlt), ← HY.out.1]
                congr 1
                have hyz : formS k y = ⟨zs, true, O⟩ := by
                  unfold formS
                  rw [HY.out.2.2.1, HO.out, JZ.out.2]
                  have hz : (if k = 0 then [] else y.arcs.map (formA k)) = (y.arcs.take j).map (formA k) := by
                    rcases HJE.out.1 with h | h
                    · split
                      · rename_i h0
                        rw [HJE.out.2 h0]; rfl
                      · rw [h, ← HY.out.2.1, List.take_length]
                    · rw [if_pos h, HJE.out.2 h]; rfl
                  rw [hz]
                  simp
                rw [hyz]
                rfl
              · rcases e with e | e
                · exact (HNX.out.2.1.1.lt g e).1
                · omega
            rcases hdd with d4 | ⟨d4, d5⟩
            · have d6 : decide (j < na) = false := by simp at d4 ⊢; omega
              go_wp2_with (at_builtin
                           go_loud (refine wpList_append_row (w2 := wr) (vs := .slice ar k cr) rfl (.tmp 74) (.tmp 76) rfl rfl Tryd.underlying22 iState rfl (by decide) w1s.heap.size w1s.heap.size 0 (.slice ar k cr) k (stsC xs) [.slice av j cv, .bool true, .int .u64 (O : Int)] wr.heap.size rfl rfl HW.out.1 (below_alloc _ _) HW.out.2.1 HW.out.2.2.1 HW.out.2.2.2.1 rfl HW.out.2.2.2.2.1 HW.out.2.2.2.2.2.1 HW.out.2.2.2.2.2.2.1 HW.out.2.2.2.2.2.2.2.1 HW.out.2.2.2.2.2.2.2.2 ?_)
                           intro a5 n5 c5 w5 hA5 r1 r2
                           obtain ⟨rfl, hz⟩ := hend.out _ _ _ _ hA5
                           have HZ := Lib.hid hz
                           clear hA5 hz i1 i11)
              exact ⟨⟨k + 1, _, a5, c5, by omega, by go_num, Lib.hid ⟨HZ.out.1, HZ.out.2.1, HZ.out.2.2.1⟩, Lib.hid ⟨HZ.out.2.2.2.1, HZ.out.2.2.2.2.1⟩, Lib.hid HZ.out.2.2.2.2.2⟩, by simp [intOf]; omega⟩
            · have d6 : decide (j < na) = true := by simp at d4 ⊢; omega
              have d7 : decide (0 < k) = false := by simp at d5 ⊢; omega
              go_wp2_with (at_builtin
                           go_loud (refine wpList_append_row (w2 := wr) (vs := .slice ar k cr) rfl (.tmp 74) (.tmp 76) rfl rfl Tryd.underlying22 iState rfl (by decide) w1s.heap.size w1s.heap.size 0 (.slice ar k cr) k (stsC xs) [.slice av j cv, .bool true, .int .u64 (O : Int)] wr.heap.size rfl rfl HW.out.1 (below_alloc _ _) HW.out.2.1 HW.out.2.2.1 HW.out.2.2.2.1 rfl HW.out.2.2.2.2.1 HW.out.2.2.2.2.2.1 HW.out.2.2.2.2.2.2.1 HW.out.2.2.2.2.2.2.2.1 HW.out.2.2.2.2.2.2.2.2 ?_)
                           intro a5 n5 c5 w5 hA5 r1 r2
                           obtain ⟨rfl, hz⟩ := hend.out _ _ _ _ hA5
                           have HZ := Lib.hid hz
                           clear hA5 hz i1 i11)
              exact ⟨⟨k + 1, _, a5, c5, by omega, by go_num, Lib.hid ⟨HZ.out.1, HZ.out.2.1, HZ.out.2.2.1⟩, Lib.hid ⟨HZ.out.2.2.2.1, HZ.out.2.2.2.2.1⟩, Lib.hid HZ.out.2.2.2.2.2⟩, by simp [intOf]; omega⟩
    · have hkm : k = m := by omega
      subst hkm
      have f0 := FstB.kp HG.out.2.2.2.2.2.2.1 (Kp.below (M := fun _ => False) HB.out) (fun h => h)
      have f1 := FstB.kp HG.out.2.2.2.2.2.2.2 (Kp.below (M := fun _ => False) HB.out) (fun h => h)
      have d1 : decide (k < k) = false := by simp
      have c0 := f0.at0
      have c1' := HF.out.1.at0
      have c2 := HF.out.1.at1
      have z0 := HF.out.1.free 0
      have y0 := f1.at0
      have y1 := f1.at1
      have y2 := f1.free 0
      have y3 := f1.free 1
      have HFS := Lib.hid (And.intro f0 f1)
      have HLE := Lib.hid HB.out.size
      have HS1 := Lib.hid HR.out.2.1.sts
      have hne1 : ¬ w1s.heap.size = w.heap.size + 1 := by omega
      clear f0 f1 hlt
      by_cases hk0 : k = 0
      · subst hk0
        have i1 := fun ob => FstB.at0 (HF.out.1.kp (Kp.below (M := fun _ => False) (below_alloc wr ob)) (fun h => h))
        have i2 := fun ob => FstB.at1 (HF.out.1.kp (Kp.below (M := fun _ => False) (below_alloc wr ob)) (fun h => h))
        have i3 := fun ob o => FstB.free (HF.out.1.kp (Kp.below (M := fun _ => False) (below_alloc wr ob)) (fun h => h)) o
        have i4 := fun ob => FstB.at0 (HFS.out.2.kp (Kp.below (M := fun _ => False) (below_alloc wr ob)) (fun h => h))
        have i5 := fun ob => FstB.at1 (HFS.out.2.kp (Kp.below (M := fun _ => False) (below_alloc wr ob)) (fun h => h))
        have i6 := fun ob o => FstB.free (HFS.out.2.kp (Kp.below (M := fun _ => False) (below_alloc wr ob)) (fun h => h)) o
        go_wp2
        have hn0 : n = 0 := HG.out.2.2.2.1.2.1 HG.out.2.1
        have hform : formedT l = [⟨[], false, 0⟩] := by rw [HG.out.2.2.1, if_pos hn0]
        have hft := HF.out.1.kp (Kp.below (M := fun _ => False) (below_alloc wr (.cells #[.slice none 0 0, .bool false, .int .u64 0] 64))) (fun h => h)
        have hfr := HFS.out.2.kp (Kp.below (M := fun _ => False) (below_alloc wr (.cells #[.slice none 0 0, .bool false, .int .u64 0] 64))) (fun h => h)
        have hs0 : Sts (wr.alloc (.cells #[.slice none 0 0, .bool false, .int .u64 0] 64)) (.slice (some ⟨wr.heap.size, 0, none⟩) 1 1) [⟨[], false, 0⟩] := sts_lit [(_, ⟨[], false, 0⟩)] (by simp) rfl (List.forall_mem_cons.2 ⟨arcs_nil _, List.forall_mem_nil _⟩)
        have hkq := kp_set (wr.alloc (.cells #[.slice none 0 0, .bool false, .int .u64 0] 64)) w1s.heap.size 0 (.slice (some ⟨wr.heap.size, 0, none⟩) 1 1)
        have hs1 := hs0.set hft rfl hkq
        have hfr1 := hfr.kp hkq (by omega)
        obtain ⟨W, hW⟩ : ∃ W, W = (((wr.alloc (.cells #[.slice none 0 0, .bool false, .int .u64 0] 64)).setCell ⟨w1s.heap.size, 0, none⟩ (.slice (some ⟨wr.heap.size, 0, none⟩) 1 1)).setCell ⟨w.heap.size + 1, 0, none⟩ (.slice (some ⟨wr.heap.size, 0, none⟩) 1 1)).setCell ⟨w.heap.size + 1, 1, none⟩ (.int .u64 (init : Int)) := ⟨_, rfl⟩
        obtain ⟨o1, o2, o3⟩ := fst_out hfr1 hs1 rfl hW
        rw [← hW]
        clear hW hfr1 hs1 hs0 i1 i2 i3 i4 i5 i6
        have q1 := o1.at0
        have q2 := o1.at1
        rw [hform]
        simp [bodyPost, results, Tryd.results10, go_sem, q1, q2]
        refine ⟨_, 1, ⟨rfl, rfl⟩, o2, ?_⟩
        have hbw : Below w.heap.size w wr := HG.out.2.2.2.2.2.1.trans (HB.out.mono HG.out.2.2.2.2.2.1.size)
        exact ((((Kp.below (M := fun g => w.heap.size ≤ g) hbw).trans (Kp.below (M := fun g => w.heap.size ≤ g) (below_alloc wr _)) (fun g e => .inl e)).trans hkq (fun g e => .inl (by have := HG.out.2.2.2.2.2.1.size; omega))).trans o3 (fun g e => .inl (by omega))).to (Nat.le_refl _) fun g e => e
      · have d2 : ((k : Int) == 0) = false := by rw [beq_eq_false_iff_ne]; omega
        go_wp2
        have hFk : F.length = k := HG.out.2.1
        have hn0 : ¬ n = 0 := fun h => hk0 (by rw [← hFk]; exact HG.out.2.2.2.1.2.2 h)
        have hform : formedT l = formSs 0 F := by rw [HG.out.2.2.1, if_neg hn0]
        have hsx : Sts wr (.slice ar k cr) (formSs 0 F) := by
          have := HS1.out
          rwa [HR.out.2.2, ← hFk, List.take_length, hFk] at this
        obtain ⟨W, hW⟩ : ∃ W, W = (wr.setCell ⟨w.heap.size + 1, 0, none⟩ (.slice ar k cr)).setCell ⟨w.heap.size + 1, 1, none⟩ (.int .u64 (init : Int)) := ⟨_, rfl⟩
        obtain ⟨o1, o2, o3⟩ := fst_out HFS.out.2 hsx rfl hW
        rw [← hW]
        clear hW hsx
        have q1 := o1.at0
        have q2 := o1.at1
        have hlF : (formSs 0 F).length = k := by rw [formSs_length, hFk]
        rw [hform]
        simp [bodyPost, results, Tryd.results10, go_sem, q1, q2]
        refine ⟨ar, cr, ⟨rfl, hlF.symm, rfl⟩, by rw [hlF]; exact o2, ?_⟩
        have hbw : Below w.heap.size w wr := HG.out.2.2.2.2.2.1.trans (HB.out.mono HG.out.2.2.2.2.2.1.size)
        exact ((Kp.below (M := fun g => w.heap.size ≤ g) hbw).trans o3 (fun g e => .inl (by omega))).to (Nat.le_refl _) fun g e => e
end Go.Proofs.YtjiilmiikejnhaaDoor

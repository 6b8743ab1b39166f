/-
  A reader, made. Rows of states, each with its own row of arcs.
-/
import Derived.Test.YtjiilmiikejnhaaDoorP14
import Derived.Laws.EntriesVeiled
set_option linter.unusedVariables false
set_option linter.unusedSimpArgs false
namespace Go.Proofs.YtjiilmiikejnhaaDoor
open Go.RowKit Go.Shelf Said

theorem alloc_old (w : World) (o : Obj) {k : Nat} (h : k < w.heap.size) : (w.alloc o).heap[k]? = w.heap[k]? := (below_alloc w o).block k h
theorem alloc_at (w : World) (o : Obj) {k : Nat} (h : k = w.heap.size) : (w.alloc o).heap[k]? = some o := by rw [h]; exact heap_alloc_new w o

set_option maxHeartbeats 1000000 in
set_option maxRecDepth 100000 in
theorem over_any {w : World} (s : ByteArray) :
    Calls Tryd.prog 59 #[.string s] w fun e w' => e = .returned (.agg (rdrC (w.heap.size + 2) (w.heap.size + 3) w.heap.size)) ∧ Rdr w' (w.heap.size + 2) (w.heap.size + 3) w.heap.size s 0 ∧ Below w.heap.size w w' := by
  go_enter Tryd.func59, Tryd.ntmps59
  go_wp2
  refine bodyPost_ret (v := .agg (rdrC (w.heap.size + 2) (w.heap.size + 3) w.heap.size)) (by simp [results, Tryd.results59, go_sem, rdrC]) rfl ?_
  refine ⟨rfl, ⟨?_, ?_, ?_⟩, ?_⟩
  · rw [alloc_old _ _ (by simp)]
    exact alloc_at _ _ (by simp)
  · exact alloc_at _ _ (by simp)
  · rw [alloc_old _ _ (by simp; omega), alloc_old _ _ (by simp; omega), alloc_old _ _ (by simp)]
    exact alloc_at _ _ rfl
  · exact ((((Below.refl _ w).alloc (Nat.le_refl _) _).alloc (by simp) _).alloc (by simp; omega) _).alloc (by simp; omega) _

end Go.Proofs.YtjiilmiikejnhaaDoor
namespace Go.Proofs.YtjiilmiikejnhaaDoor
open Go.RowKit Go.Shelf Said

def FstB (w : World) (p : Nat) (v : Value) (n : Nat) : Prop := w.heap[p]? = some (.cells #[v, .int .u64 (n : Int)] 25 (0, 0))
theorem FstB.at0 {w : World} {p : Nat} {v : Value} {n : Nat} (h : FstB w p v n) : w.cell? ⟨p, 0, none⟩ = some v := by rw [cell_of_row w p 0 _ _ _ h]; rfl
theorem FstB.at1 {w : World} {p : Nat} {v : Value} {n : Nat} (h : FstB w p v n) : w.cell? ⟨p, 1, none⟩ = some (.int .u64 (n : Int)) := by rw [cell_of_row w p 1 _ _ _ h]; rfl
theorem FstB.lt {w : World} {p : Nat} {v : Value} {n : Nat} (h : FstB w p v n) : p < w.heap.size := (Array.getElem?_eq_some_iff.1 h).1
theorem FstB.kp {w w' : World} {p : Nat} {v : Value} {n : Nat} {M : Nat → Prop} (h : FstB w p v n) (hk : Kp M w w') (hm : ¬ M p) : FstB w' p v n := (hk.block p h.lt hm).trans h
theorem FstB.free {w : World} {p : Nat} {v : Value} {n : Nat} (h : FstB w p v n) (o : Nat) : w.frozen? ⟨p, o, none⟩ = false := by
  unfold FstB at h
  simp [World.frozen?, h]
theorem FstB.set0 {w : World} {p : Nat} {v : Value} {n : Nat} (h : FstB w p v n) (u : Value) : FstB (w.setCell ⟨p, 0, none⟩ u) p u n := cells_setCell h 0 _
theorem FstB.set1 {w : World} {p : Nat} {v : Value} {n : Nat} (h : FstB w p v n) (m : Nat) : FstB (w.setCell ⟨p, 1, none⟩ (.int .u64 (m : Int))) p v m := cells_setCell h 1 _

theorem owns_base {w : World} {b base size n : Nat} {e : TypeId} {v : Value} {xs : List Value} (h : w.ownsRow b e size v n xs) (hb : base ≤ b) : w.ownsRow base e size v n xs := by
  refine ⟨h.1, ?_⟩
  rcases h.2 with h' | ⟨g, cap, cur, rfl, h2, h3⟩
  · exact .inl h'
  · exact .inr ⟨g, cap, cur, rfl, Nat.le_trans hb h2, h3⟩

/-- A row of states, each with its own row of arcs. -/
def RowsI (w : World) (base : Nat) (v : Value) (xs : List (Value × DSt)) : Prop := SRow w base v xs ∧ ∀ x ∈ xs, ARow w base x.1 x.2.arcs
theorem RowsI.kp {w w' : World} {base : Nat} {v : Value} {xs : List (Value × DSt)} {M : Nat → Prop} (h : RowsI w base v xs) (hk : Kp M w w') (hm : ∀ g cs fz, base ≤ g → w.heap[g]? = some (.cells cs 64 fz) ∨ w.heap[g]? = some (.cells cs 66 fz) → ¬ M g) : RowsI w' base v xs := by
  refine ⟨owns_same h.1 fun g hg => ?_, fun x hx => owns_same (h.2 x hx) fun g hg => ?_⟩
  · obtain ⟨h1, cs, fz, h2⟩ := owns_cells h.1 g hg
    exact hk.block g (h.1.lt g hg).2 (hm g cs fz h1 (.inl h2))
  · obtain ⟨h1, cs, fz, h2⟩ := owns_cells (h.2 x hx) g hg
    exact hk.block g ((h.2 x hx).lt g hg).2 (hm g cs fz h1 (.inr h2))
theorem RowsI.sts {w : World} {base : Nat} {v : Value} {xs : List (Value × DSt)} (h : RowsI w base v xs) : Sts w v (xs.map (·.2)) := sts_of' h.1 fun x hx => (h.2 x hx).arcs

theorem arcsR_lt {s : List UInt8} {own : Nat} : ∀ {n a k : Nat} {acc l : List DArc}, arcsR s own n a acc = .ok (l, k) → a ≤ k ∧ (a ≤ s.length → k ≤ s.length)
  | 0, a, k, acc, l, h => by
    injection h with h
    injection h with h1 h2
    omega
  | n + 1, a, k, acc, l, h => by
    unfold arcsR at h
    cases hA : arcR s own a with
    | error e => rw [hA] at h; cases h
    | ok r =>
      obtain ⟨x, a1⟩ := r
      rw [hA] at h
      have h1 := arcR_lt hA
      have h2 := arcsR_lt h
      omega
theorem stR_lt {s : List UInt8} {own a k : Nat} {x : DSt} (h : stR s own a = .ok (x, k)) : a < k ∧ k ≤ s.length := by
  unfold stR at h
  cases hT : numR s a 0 513 with
  | error e => rw [hT] at h; cases h
  | ok r1 =>
    obtain ⟨t, a1⟩ := r1
    rw [hT] at h
    dsimp only at h
    have g1 := numR_lt hT
    split at h
    · cases h
    · rename_i o a2 he
      have g2 : a1 ≤ a2 ∧ a2 ≤ s.length := by
        by_cases hf : t % 2 = 1
        · rw [if_pos hf] at he
          have := numR_lt he
          omega
        · rw [if_neg hf] at he
          injection he with he
          injection he with h1 h2
          omega
      cases hA : arcsR s own (t / 2) a2 [] with
      | error e => rw [hA] at h; cases h
      | ok r3 =>
        obtain ⟨l, a3⟩ := r3
        rw [hA] at h
        injection h with h
        injection h with h1 h2
        have := arcsR_lt hA
        omega

/-- One state more stands in the row, and the row in its box. -/
theorem rows_next {w1 w5 : World} {base pa pm ps q r : Nat} {s : ByteArray} {xs : List (Value × DSt)} {y : Value × DSt} {v v5 v0 : Value} {n a3 : Nat} (hs : FstB w1 q v n) (hr : Rdr w1 pa pm ps s a3) (hrb : RB w1 r pa pm ps) (hrow : RowsI w1 base v xs) (hy : ARow w1 base y.1 y.2.arcs)
    (hA : Appd w1 base 64 v (xs.length + 1) (stsC xs ++ stC y) q 0 v0 v5 w5) (hq : q ≠ pa ∧ q ≠ pm ∧ q ≠ ps ∧ q ≠ r ∧ base ≤ q) :
    FstB (w5.setCell ⟨q, 0, none⟩ v5) q v5 n ∧ RowsI (w5.setCell ⟨q, 0, none⟩ v5) base v5 (xs ++ [y]) ∧ Rdr (w5.setCell ⟨q, 0, none⟩ v5) pa pm ps s a3 ∧ RB (w5.setCell ⟨q, 0, none⟩ v5) r pa pm ps ∧ Kp (fun g => base ≤ g) w1 (w5.setCell ⟨q, 0, none⟩ v5) := by
  obtain ⟨a1, a2, a3', -, -⟩ := hA
  have nb : ∀ b o, w1.heap[b]? = some o → (∀ cs fz, o ≠ .cells cs 64 fz) → ¬ v.ownBlock = some b := fun b o ho hne e => by
    obtain ⟨_, cs, fz, hc⟩ := owns_cells hrow.1 b e
    rw [ho] at hc
    exact hne cs fz (Option.some.inj hc)
  have hs' : w1.heap[q]? = some _ := hs
  have hrb' : w1.heap[r]? = some _ := hrb
  have hk := kp_set w5 q 0 v5
  have hs5 := hs.kp a2 (nb q _ hs' (fun cs fz e => by cases e))
  have nq : ∀ b, v5.ownBlock = some b → b ≠ q := fun b hb e => by
    subst e
    rcases a3' with e | e
    · rw [e] at hb
      exact nb b _ hs' (fun cs fz e => by cases e) hb
    · have := e b hb
      have := hs.lt
      omega
  have hks : Kp (fun g => v.ownBlock = some g ∨ g = q) w1 (w5.setCell ⟨q, 0, none⟩ v5) := (a2.mono fun g e => .inl (.inl e)).trans hk (fun g e => .inl (.inr e))
  have hold : ∀ x : Value × DSt, ARow w1 base x.1 x.2.arcs → ARow (w5.setCell ⟨q, 0, none⟩ v5) base x.1 x.2.arcs := fun x hx => hx.kp hks fun g hg e => by
    obtain ⟨_, cs, fz, hc⟩ := owns_cells hx g hg
    rcases e with e | e
    · exact nb g _ hc (fun cs' fz' e' => by cases e') e
    · subst e
      rw [hs'] at hc
      cases hc
  refine ⟨hs5.set0 v5, ⟨?_, fun x hx => ?_⟩, (hr.kp a2 (nb _ _ hr.pos (fun cs fz e => by cases e)) (nb _ _ hr.must (fun cs fz e => by cases e)) (nb _ _ hr.text (fun cs fz e => by cases e))).kp hk (fun e => hq.1 e.symm) (fun e => hq.2.1 e.symm) (fun e => hq.2.2.1 e.symm), (hrb.kp a2 (nb r _ hrb' (fun cs fz e => by cases e))).kp hk (fun e => hq.2.2.2.1 e.symm), hks.mono fun g e => .inl ?_⟩
  · unfold SRow
    rw [List.length_append, List.length_singleton, stsC_snoc]
    exact owns_same a1 fun b hb => hk.block b (a1.lt b hb).2 (nq b hb)
  · rcases List.mem_append.1 hx with h | h
    · exact hold x (hrow.2 x h)
    · rw [List.mem_singleton.1 h]
      exact hold y hy
  · rcases e with e | e
    · exact (hrow.1.lt g e).1
    · rw [e]; exact hq.2.2.2.2

end Go.Proofs.YtjiilmiikejnhaaDoor

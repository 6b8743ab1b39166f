/-
  A part more behind a row of one's own, where no order is drawn.
-/
import Derived.Test.YtjiilmiikejnhaaDoorP15
import Derived.Laws.AppendOwn
set_option linter.unusedVariables false
set_option linter.unusedSimpArgs false
namespace Go.Proofs.YtjiilmiikejnhaaDoor
open Go.RowKit Go.Shelf Said

theorem wpList_append_row {w2 w : World} {ops : Array Oper} {rest : List Oper} {o : Oper} {a : Act} {Q : Exit → Act → World → Prop} {t e : TypeId} {by_ : Nat}
    (hg : o.guard = none) (s x : Operand) (hop : o.op = Op.call { callee := Callee.builtin Builtin.append, args := #[s, x], argTypes := #[t, t] }) (ht : o.type = t)
    (hu : Tryd.prog.underlying t = some (.slice e)) {z1 : Value} (hi9 : (Tryd.prog.info? e).map (fun i => (i.zero, i.size, i.bytes)) = some (some z1, 3, by_)) (hz9 : z1.cells.size = 3) (hby9 : by_ ≤ 1000)
    (base bp op_ : Nat) (v0 : Value) (n : Nat) (xs cs : List Value) (bb : Nat) {vs : Value}
    (hs : a.eval s = vs) (hx : a.eval x = .slice (some ⟨bb, 0, none⟩) 1 1) (hn : w.heap[bb]? = some (.cells cs.toArray e (0, 0))) (hb : Below w2.heap.size w2 w)
    (hr : w2.ownsRow base e 3 vs n xs) (hL : n ≤ 100000) (hbs : base ≤ w2.heap.size) (hc3 : cs.length = 3) (hv1 : ∀ u ∈ cs, u.oneCell' = true)
    (hp1 : vs.ownBlock ≠ some bp) (hp2 : w2.cell? ⟨bp, op_, none⟩ = some v0) (hp3 : w2.frozen? ⟨bp, op_, none⟩ = false) (hp4 : bp < w2.heap.size)
    (hK : ∀ ad k c w3, Appd w2 base e vs (n + 1) (xs ++ cs) bp op_ v0 (.slice ad k c) w3 → w3.cell? ⟨bp, op_, none⟩ = some v0 → w3.frozen? ⟨bp, op_, none⟩ = false → wpList Tryd.prog ops Q rest (a.put o.dst (.slice ad k c)) w3) :
    wpList Tryd.prog ops Q (o :: rest) a w := by
  obtain ⟨i0, hi, hz0, hz1, hz2⟩ := info_parts hi9
  have hr' : w.ownsRow base e 3 vs n xs := owns_same hr fun b hbb => hb.block b (hr.lt b hbb).2
  have hbw : base ≤ w.heap.size := Nat.le_trans hbs hb.size
  obtain ⟨v', w3, h1, h2, h3, _, h5⟩ := run_append_own_at (P := Tryd.prog) w base t t e i0 _ 3 by_ hu hi hz0 hz1 hz2 hz9 (by decide) vs n xs hr' ⟨bb, 0, none⟩ 1 1 cs (by rw [hc3])
    (by
      intro j u hj
      rw [Addr.add_lit, Nat.zero_add, cell_of_row w bb j _ _ _ hn]
      simpa using hj) hv1 (by unfold maxLen; omega) (by
      have : (n + 1) * by_ ≤ 100001 * 1000 := Nat.mul_le_mul (by omega) hby9
      omega) hbw
  refine wpList_plain hg fun _ hK9 => ?_
  unfold Oper.wp execOp
  simp only [hop, ht, resolve, invoke, builtin, Sem.run_bind, Sem.run_pure, Result.andThen_ok, List.map_toArray, List.map_cons, List.map_nil, hs, hx, h1]
  refine hK9 _ _ ?_
  obtain ⟨ad, k, c, rfl⟩ : ∃ ad k c, v' = .slice ad k c := by
    rcases h2.2 with ⟨rfl, _⟩ | ⟨g, cap, cur, rfl, _⟩
    · exact ⟨_, _, _, rfl⟩
    · exact ⟨_, _, _, rfl⟩
  have hbl : w3.heap[bp]? = w2.heap[bp]? := (h3.block bp (Nat.lt_of_lt_of_le hp4 hb.size) (fun e => hp1 e.symm)).trans (hb.block bp hp4)
  have q1 : w3.cell? ⟨bp, op_, none⟩ = some v0 := by rw [World.cell?_of_block (w := w2) (a := ⟨bp, op_, none⟩) hbl]; exact hp2
  have q2 : w3.frozen? ⟨bp, op_, none⟩ = false := by
    have : w3.frozen? ⟨bp, op_, none⟩ = w2.frozen? ⟨bp, op_, none⟩ := by simp only [World.frozen?, hbl]
    rw [this]; exact hp3
  refine hK ad k c w3 ⟨h2, (Kp.below hb).trans (Kp.grown h3 (fun g e => e)) (fun g h => .inl h), ?_, q1, q2⟩ q1 q2
  rcases h5 with e | e
  · exact .inl e
  · refine .inr fun b hb' => ?_
    have := e.symm.trans hb'
    injection this with this
    have := hb.size
    omega

end Go.Proofs.YtjiilmiikejnhaaDoor

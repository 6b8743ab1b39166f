/-
  A map of words with their entries; the copy of a trie.
-/
import Derived.Test.YtomkhhglemelcaaG33
import Derived.Maps.OwnOps
import Derived.Maps.OwnSet
import Derived.Sort.Walk0
import Derived.Laws.Cover1
set_option linter.unusedVariables false
set_option linter.unusedSimpArgs false
namespace Go.Proofs.Ytomkhhglemelcaa
open Go.RowKit Go.Shelf

theorem keyS : Maps.Keyed Try.prog 9 := Maps.string_keyed Try.underlying9
theorem key_is (s : ByteArray) (hs : s.size ≤ 1000000) : keyOf Try.prog 9 (.string s) = some (.string s.data.toList) := Go.WideMaps.keyOf_string_mk Try.underlying9 (by unfold maxLen; omega)

def entV (x : Ent) : Value := .agg #[.string x.word, .int .u32 (x.weight : Int), .bool x.gone]
def entD (x : Ent) : DataW Unit := .agg [.lit (.string x.word.data.toList), .lit (.int .u32 (x.weight : Int)), .lit (.bool x.gone)]
def entElem (v : Value) : Option (DataW Unit × List MemPlace) :=
  match v with
  | .agg ⟨[.string s, .int .u32 n, .bool b]⟩ => if 0 ≤ n then some (entD ⟨s, n.toNat, b⟩, []) else none
  | _ => none
theorem entElem_mk (x : Ent) : entElem (entV x) = some (entD x, []) := by
  show (if 0 ≤ (x.weight : Int) then some (entD ⟨x.word, (x.weight : Int).toNat, x.gone⟩, []) else none) = _
  rw [if_pos (by omega)]
  rfl
theorem entElem_inv {v : Value} {z : DataW Unit × List MemPlace} (h : entElem v = some z) : ∃ x, v = entV x ∧ z = (entD x, []) := by
  unfold entElem at h
  split at h
  · rename_i s n b
    split at h
    · rename_i hn
      cases h
      refine ⟨⟨s, n.toNat, b⟩, ?_, rfl⟩
      unfold entV
      rw [show ((n.toNat : Nat) : Int) = n by omega]
    · cases h
  · cases h
theorem entD_inj {x y : Ent} (h : entD x = entD y) : x = y := by
  obtain ⟨a, b, c⟩ := x
  obtain ⟨d, e, f⟩ := y
  unfold entD at h
  simp only [DataW.agg.injEq, List.cons.injEq, DataW.lit.injEq, Lit.string.injEq, Lit.int.injEq, Lit.bool.injEq, and_true, true_and] at h
  obtain ⟨h1, h2, rfl⟩ := h
  have h1' : a = d := ByteArray.ext (Array.toList_inj.1 h1)
  have h2' : b = e := by omega
  rw [h1', h2']
theorem zeroE (w : World) : (zeroValue 33).run Try.prog w = .ok (entV ⟨⟨#[]⟩, 0, false⟩) w := by kernel_rfl

/-- Block m is a map of just the entries of a trie, by their words. -/
def HasE (w : World) (m n : Nat) (t : Tr) : Prop :=
  ∃ D : DataW Unit, w.ownsMap Try.prog 9 entElem m n D ∧ Maps.size D = (t.all []).length ∧ (∀ r, Maps.has D (.string r) = (t.get r).isSome) ∧ ∀ r y, t.get r = some y → ∀ z, D.atKey (.string r) z = entD (entOf r y)
theorem hasE_made (w : World) : HasE (w.alloc (.map #[] 0)) w.heap.size 0 .nil := ⟨.map [], World.ownsMap_made _ _ _ _, rfl, fun r => by rw [Tr.get_nil]; rfl, fun r y h => by rw [Tr.get_nil] at h; cases h⟩
theorem HasE.same {w w' : World} {m n : Nat} {t : Tr} (h : HasE w m n t) (he : w'.heap[m]? = w.heap[m]?) : HasE w' m n t := by
  obtain ⟨D, ⟨es, clock, hb, F, hs, hD⟩, h2⟩ := h
  exact ⟨D, ⟨es, clock, he.trans hb, F, hs, hD⟩, h2⟩
theorem HasE.lt {w : World} {m n : Nat} {t : Tr} (h : HasE w m n t) : m < w.heap.size := by
  obtain ⟨D, h1, _⟩ := h
  exact h1.lt
theorem HasE.below {w w' : World} {m n : Nat} {t : Tr} (h : HasE w m n t) (hb : Below w.heap.size w w') : HasE w' m n t := h.same (hb.block m h.lt)
theorem HasE.look {w : World} {m n : Nat} {t : Tr} (h : HasE w m n t) (s : ByteArray) (hs : s.size ≤ 1000000) (y : Nat × Bool) (hy : t.get s.data.toList = some y) :
    (Instr.lookup 44 (.map (some m)) (.string s) true).run Try.prog w = .ok (.tuple #[.agg #[.string s, .int .u32 (y.1 : Int), .bool y.2], .bool true]) w := by
  obtain ⟨D, h1, -, h2, h3⟩ := h
  obtain ⟨v, ps, hrun, hv⟩ := h1.look_ok keyS Try.underlying44 (zeroE w) (entElem_mk _) (key_is s hs)
  obtain ⟨x, rfl, hx⟩ := entElem_inv hv
  have hx := congrArg Prod.fst hx
  simp only at hx
  rw [hrun, h2, hy]
  rw [h3 _ _ hy] at hx
  rw [← entD_inj hx]
  rfl
theorem HasE.len {w : World} {m n : Nat} {t : Tr} (h : HasE w m n t) (ty : TypeId) : (Builtin.len_ #[44] ty #[.map (some m)]).run Try.prog w = .ok (.int .i64 ((t.all []).length : Nat)) w := by
  obtain ⟨D, h1, h2, -, -⟩ := h
  rw [← h2]
  exact h1.len Try.underlying44 ty
theorem HasE.put {w : World} {m n : Nat} {t : Tr} (h : HasE w m n t) (hn : n ≤ 1000000) (s : ByteArray) (hs : s.size ≤ 1000000) (v : Nat × Bool) :
    ∃ w', (Instr.mapUpdate 44 (.map (some m)) (.string s) (.agg #[.string s, .int .u32 (v.1 : Int), .bool v.2])).run Try.prog w = .ok () w' ∧ HasE w' m (n + 1) (t.put s.data.toList v) ∧ w.grownBy w' (some m) := by
  obtain ⟨D, h1, h2, h3, h4⟩ := h
  obtain ⟨w', k1, k2, k3⟩ := h1.store keyS Try.underlying44 (by unfold maxLen; omega) (key_is s hs) (entElem_mk (entOf s.data.toList v))
  have hkl : WideAt.IsKeyLit (Lit.string s.data.toList) := trivial
  have hne : ∀ y, y ≠ s.data.toList → (Lit.string y) ≠ .string s.data.toList := fun y hy e => by injection e with e; exact hy e
  refine ⟨w', k1, ⟨_, k2, ?_, fun y => ?_, fun y c hy z => ?_⟩, k3.grown⟩
  · rw [Maps.size_put (h1.tidy keyS), h3, (put_count t s v).1, h2]
    cases t.get s.data.toList <;> simp
  · by_cases e : y = s.data.toList
    · subst e
      rw [Maps.has_put_same h1.isMap hkl, Tr.get_put, if_pos rfl]; rfl
    · rw [Maps.has_put_other (hne y e), Tr.get_put, if_neg e]
      exact h3 y
  · by_cases e : y = s.data.toList
    · subst e
      rw [Tr.get_put, if_pos rfl] at hy
      cases hy
      exact Maps.atKey_put_same h1.isMap hkl _ _
    · rw [Tr.get_put, if_neg e] at hy
      rw [Maps.atKey_put_other (hne y e)]
      exact h4 y c hy z

section
variable (w : World) {ops : Array Oper} {rest : List Oper} {o : Oper} {a : Act} {Q : Exit → Act → World → Prop}
theorem wpList_put_ent (hg : o.guard = none) (mm x v : Operand) (hop : o.op = Op.mapUpdate 44 mm x v) (m n : Nat) (t : Tr) (s : ByteArray) (vv : Nat × Bool)
    (hm : a.eval mm = .map (some m)) (hx : a.eval x = .string s) (hv : a.eval v = .agg #[.string s, .int .u32 (vv.1 : Int), .bool vv.2]) (h : HasE w m n t) (hn : n ≤ 1000000) (hs : s.size ≤ 1000000)
    (hK : ∀ w', HasE w' m (n + 1) (t.put s.data.toList vv) → w.grownBy w' (some m) → wpList Try.prog ops Q rest (a.put o.dst undef) w') : wpList Try.prog ops Q (o :: rest) a w := by
  refine wpList_plain hg fun K' hK' => ?_
  obtain ⟨w', hrun, r1, r2⟩ := h.put hn s hs vv
  unfold Oper.wp
  simp [execOp, hop, hm, hx, hv, hrun, Result.andThen]
  exact hK' _ _ (hK w' r1 r2)
end

set_option maxRecDepth 100000 in
set_option maxHeartbeats 1000000 in
/-- Copy: a block of its own, with the same nodes. -/
theorem copy_at {w : World} {T : Nat} {O : Nat → Prop} {t : Tr} (h : TrieAt w T O t) :
    Calls Try.prog 27 #[.pointer (some ⟨T, 0, none⟩)] w fun e w' => e = .returned (.pointer (some ⟨w.heap.size, 0, none⟩)) ∧ TrieAt w' w.heap.size (fun k => k ≠ w.heap.size) t ∧ Below w.heap.size w w' := by
  obtain ⟨p, h1, h2, h3, h4⟩ := h
  have hT : T < w.heap.size := (Array.getElem?_eq_some_iff.1 h1).1
  have hb := below_alloc w (.cells #[ptrV p, .int .i64 ((t.all []).length : Int), .int .i64 (wordsLen (t.all []) : Int)] 99)
  have HF : Hid (TrieAt (w.alloc (.cells #[ptrV p, .int .i64 ((t.all []).length : Int), .int .i64 (wordsLen (t.all []) : Int)] 99)) w.heap.size (fun k => k ≠ w.heap.size) t ∧ Below w.heap.size w (w.alloc (.cells #[ptrV p, .int .i64 ((t.all []).length : Int), .int .i64 (wordsLen (t.all []) : Int)] 99))) := Lib.hid ⟨⟨p, World.alloc_heap_new w _, (h2.here.below hb).kept (fun k hk => Nat.ne_of_lt hk) (fun _ _ _ => rfl), fun h => h rfl, h4⟩, hb⟩
  have c0 : w.cell? ⟨T, 0, none⟩ = some (ptrV p) := cell_of_row w T 0 _ _ _ h1
  have c1 : w.cell? ⟨T, 1, none⟩ = some (.int .i64 ((t.all []).length : Int)) := cell_of_row w T 1 _ _ _ h1
  have c2 : w.cell? ⟨T, 2, none⟩ = some (.int .i64 (wordsLen (t.all []) : Int)) := cell_of_row w T 2 _ _ _ h1
  clear h1 h2 h3 h4 hb
  generalize (t.all []).length = n at *
  generalize wordsLen (t.all []) = m at *
  cases p with
  | none =>
    have c0' : w.cell? ⟨T, 0, none⟩ = some (.pointer none) := c0
    clear c0
    go_enter Try.func27, Try.ntmps27
    go_wp2
    go_ret
    exact ⟨rfl, HF.out⟩
  | some q =>
    have c0' : w.cell? ⟨T, 0, none⟩ = some (.pointer (some ⟨q, 0, none⟩)) := c0
    clear c0
    go_enter Try.func27, Try.ntmps27
    go_wp2
    go_ret
    exact ⟨rfl, HF.out⟩
end Go.Proofs.Ytomkhhglemelcaa

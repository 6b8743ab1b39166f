/-
  A map of words with their entries; the copy of a trie. The document's Less, Shared and Near, at this program. The document's trie: a list by rising words in a block; what is asked of it. The document's trie: the bytes that lead on from a row. The document's trie: Put.
-/
import Derived.Test.YtclaadiclgfbmaaG29
import Derived.Maps.OwnOps
import Derived.Maps.OwnSet
import Derived.Sort.Walk0
import Derived.Laws.Cover1
import Derived.Deep.RegionHeldLaw
import Derived.Deep.CutBlock
import Derived.Deep.DeepCutAuto
set_option linter.unusedVariables false
set_option linter.unusedSimpArgs false
namespace Go.Proofs.Ytclaadiclgfbmaa
open Go.RowKit Go.Shelf

theorem keyS : Maps.Keyed Try.prog 9 := Maps.string_keyed Try.underlying9
theorem key_is (s : ByteArray) (hs : s.size ≤ 1000000) : keyOf Try.prog 9 (.string s) = some (.string s.data.toList) := Go.WideMaps.keyOf_string_mk Try.underlying9 (by unfold maxLen; omega)

def entV (x : Ent) : Value := .agg #[.string x.word, .int .u32 (x.weight : Int), .bool x.gone]
def entD (x : Ent) : DataW Unit := .agg [.lit (.string x.word.data.toList), .lit (.int .u32 (x.weight : Int)), .lit (.bool x.gone)]
def entElem (v : Value) : Option (DataW Unit × List MemPlace) :=
  match v with
  | .agg ⟨[.string s, .int .u32 n, .bool b]⟩ => if 0 ≤ n then some (entD ⟨s, n.toNat, b⟩, []) else none
  | _ => none
theorem entElem_mk (x : Ent) : entElem (entV x) = some (entD x, []) := by
  show (if 0 ≤ (x.weight : Int) then some (entD ⟨x.word, (x.weight : Int).toNat, x.gone⟩, []) else none) = _
  rw [if_pos (by omega)]
  rfl
theorem entElem_inv {v : Value} {z : DataW Unit × List MemPlace} (h : entElem v = some z) : ∃ x, v = entV x ∧ z = (entD x, []) := by
  unfold entElem at h
  split at h
  · rename_i s n b
    split at h
    · rename_i hn
      cases h
      refine ⟨⟨s, n.toNat, b⟩, ?_, rfl⟩
      unfold entV
      rw [show ((n.toNat : Nat) : Int) = n by omega]
    · cases h
  · cases h
theorem entD_inj {x y : Ent} (h : entD x = entD y) : x = y := by
  obtain ⟨a, b, c⟩ := x
  obtain ⟨d, e, f⟩ := y
  unfold entD at h
  simp only [DataW.agg.injEq, List.cons.injEq, DataW.lit.injEq, Lit.string.injEq, Lit.int.injEq, Lit.bool.injEq, and_true, true_and] at h
  obtain ⟨h1, h2, rfl⟩ := h
  have h1' : a = d := ByteArray.ext (Array.toList_inj.1 h1)
  have h2' : b = e := by omega
  rw [h1', h2']
theorem zeroE (w : World) : (zeroValue 33).run Try.prog w = .ok (entV ⟨⟨#[]⟩, 0, false⟩) w := by kernel_rfl

/-- Block m is a map of just the entries of a trie, by their words. -/
def HasE (w : World) (m n : Nat) (t : Tr) : Prop :=
  ∃ D : DataW Unit, w.ownsMap Try.prog 9 entElem m n D ∧ Maps.size D = (t.all []).length ∧ (∀ r, Maps.has D (.string r) = (t.get r).isSome) ∧ ∀ r y, t.get r = some y → ∀ z, D.atKey (.string r) z = entD (entOf r y)
theorem hasE_made (w : World) : HasE (w.alloc (.map #[] 0)) w.heap.size 0 .nil := ⟨.map [], World.ownsMap_made _ _ _ _, rfl, fun r => by rw [Tr.get_nil]; rfl, fun r y h => by rw [Tr.get_nil] at h; cases h⟩
theorem HasE.same {w w' : World} {m n : Nat} {t : Tr} (h : HasE w m n t) (he : w'.heap[m]? = w.heap[m]?) : HasE w' m n t := by
  obtain ⟨D, ⟨es, clock, hb, F, hs, hD⟩, h2⟩ := h
  exact ⟨D, ⟨es, clock, he.trans hb, F, hs, hD⟩, h2⟩
theorem HasE.lt {w : World} {m n : Nat} {t : Tr} (h : HasE w m n t) : m < w.heap.size := by
  obtain ⟨D, h1, _⟩ := h
  exact h1.lt
theorem HasE.below {w w' : World} {m n : Nat} {t : Tr} (h : HasE w m n t) (hb : Below w.heap.size w w') : HasE w' m n t := h.same (hb.block m h.lt)
theorem HasE.look {w : World} {m n : Nat} {t : Tr} (h : HasE w m n t) (s : ByteArray) (hs : s.size ≤ 1000000) (y : Nat × Bool) (hy : t.get s.data.toList = some y) :
    (Instr.lookup 44 (.map (some m)) (.string s) true).run Try.prog w = .ok (.tuple #[.agg #[.string s, .int .u32 (y.1 : Int), .bool y.2], .bool true]) w := by
  obtain ⟨D, h1, -, h2, h3⟩ := h
  obtain ⟨v, ps, hrun, hv⟩ := h1.look_ok keyS Try.underlying44 (zeroE w) (entElem_mk _) (key_is s hs)
  obtain ⟨x, rfl, hx⟩ := entElem_inv hv
  have hx := congrArg Prod.fst hx
  simp only at hx
  rw [hrun, h2, hy]
  rw [h3 _ _ hy] at hx
  rw [← entD_inj hx]
  rfl
theorem HasE.len {w : World} {m n : Nat} {t : Tr} (h : HasE w m n t) (ty : TypeId) : (Builtin.len_ #[44] ty #[.map (some m)]).run Try.prog w = .ok (.int .i64 ((t.all []).length : Nat)) w := by
  obtain ⟨D, h1, h2, -, -⟩ := h
  rw [← h2]
  exact h1.len Try.underlying44 ty
theorem HasE.put {w : World} {m n : Nat} {t : Tr} (h : HasE w m n t) (hn : n ≤ 1000000) (s : ByteArray) (hs : s.size ≤ 1000000) (v : Nat × Bool) :
    ∃ w', (Instr.mapUpdate 44 (.map (some m)) (.string s) (.agg #[.string s, .int .u32 (v.1 : Int), .bool v.2])).run Try.prog w = .ok () w' ∧ HasE w' m (n + 1) (t.put s.data.toList v) ∧ w.grownBy w' (some m) := by
  obtain ⟨D, h1, h2, h3, h4⟩ := h
  obtain ⟨w', k1, k2, k3⟩ := h1.store keyS Try.underlying44 (by unfold maxLen; omega) (key_is s hs) (entElem_mk (entOf s.data.toList v))
  have hkl : WideAt.IsKeyLit (Lit.string s.data.toList) := trivial
  have hne : ∀ y, y ≠ s.data.toList → (Lit.string y) ≠ .string s.data.toList := fun y hy e => by injection e with e; exact hy e
  refine ⟨w', k1, ⟨_, k2, ?_, fun y => ?_, fun y c hy z => ?_⟩, k3.grown⟩
  · rw [Maps.size_put (h1.tidy keyS), h3, (put_count t s v).1, h2]
    cases t.get s.data.toList <;> simp
  · by_cases e : y = s.data.toList
    · subst e
      rw [Maps.has_put_same h1.isMap hkl, Tr.get_put, if_pos rfl]; rfl
    · rw [Maps.has_put_other (hne y e), Tr.get_put, if_neg e]
      exact h3 y
  · by_cases e : y = s.data.toList
    · subst e
      rw [Tr.get_put, if_pos rfl] at hy
      cases hy
      exact Maps.atKey_put_same h1.isMap hkl _ _
    · rw [Tr.get_put, if_neg e] at hy
      rw [Maps.atKey_put_other (hne y e)]
      exact h4 y c hy z

section
variable (w : World) {ops : Array Oper} {rest : List Oper} {o : Oper} {a : Act} {Q : Exit → Act → World → Prop}
theorem wpList_put_ent (hg : o.guard = none) (mm x v : Operand) (hop : o.op = Op.mapUpdate 44 mm x v) (m n : Nat) (t : Tr) (s : ByteArray) (vv : Nat × Bool)
    (hm : a.eval mm = .map (some m)) (hx : a.eval x = .string s) (hv : a.eval v = .agg #[.string s, .int .u32 (vv.1 : Int), .bool vv.2]) (h : HasE w m n t) (hn : n ≤ 1000000) (hs : s.size ≤ 1000000)
    (hK : ∀ w', HasE w' m (n + 1) (t.put s.data.toList vv) → w.grownBy w' (some m) → wpList Try.prog ops Q rest (a.put o.dst undef) w') : wpList Try.prog ops Q (o :: rest) a w := by
  refine wpList_plain hg fun K' hK' => ?_
  obtain ⟨w', hrun, r1, r2⟩ := h.put hn s hs vv
  unfold Oper.wp
  simp [execOp, hop, hm, hx, hv, hrun, Result.andThen]
  exact hK' _ _ (hK w' r1 r2)
end

set_option maxRecDepth 100000 in
set_option maxHeartbeats 1000000 in
/-- Copy: a block of its own, with the same nodes. -/
theorem copy_at {w : World} {T : Nat} {O : Nat → Prop} {t : Tr} (h : TrieAt w T O t) :
    Calls Try.prog 31 #[.pointer (some ⟨T, 0, none⟩)] w fun e w' => e = .returned (.pointer (some ⟨w.heap.size, 0, none⟩)) ∧ TrieAt w' w.heap.size (fun k => k ≠ w.heap.size) t ∧ Below w.heap.size w w' := by
  obtain ⟨p, h1, h2, h3, h4⟩ := h
  have hT : T < w.heap.size := (Array.getElem?_eq_some_iff.1 h1).1
  have hb := below_alloc w (.cells #[ptrV p, .int .i64 ((t.all []).length : Int), .int .i64 (wordsLen (t.all []) : Int)] 117)
  have HF : Hid (TrieAt (w.alloc (.cells #[ptrV p, .int .i64 ((t.all []).length : Int), .int .i64 (wordsLen (t.all []) : Int)] 117)) w.heap.size (fun k => k ≠ w.heap.size) t ∧ Below w.heap.size w (w.alloc (.cells #[ptrV p, .int .i64 ((t.all []).length : Int), .int .i64 (wordsLen (t.all []) : Int)] 117))) := Lib.hid ⟨⟨p, World.alloc_heap_new w _, (h2.here.below hb).kept (fun k hk => Nat.ne_of_lt hk) (fun _ _ _ => rfl), fun h => h rfl, h4⟩, hb⟩
  have c0 : w.cell? ⟨T, 0, none⟩ = some (ptrV p) := cell_of_row w T 0 _ _ _ h1
  have c1 : w.cell? ⟨T, 1, none⟩ = some (.int .i64 ((t.all []).length : Int)) := cell_of_row w T 1 _ _ _ h1
  have c2 : w.cell? ⟨T, 2, none⟩ = some (.int .i64 (wordsLen (t.all []) : Int)) := cell_of_row w T 2 _ _ _ h1
  clear h1 h2 h3 h4 hb
  generalize (t.all []).length = n at *
  generalize wordsLen (t.all []) = m at *
  cases p with
  | none =>
    have c0' : w.cell? ⟨T, 0, none⟩ = some (.pointer none) := c0
    clear c0
    go_enter Try.func31, Try.ntmps31
    go_wp2
    go_ret
    exact ⟨rfl, HF.out⟩
  | some q =>
    have c0' : w.cell? ⟨T, 0, none⟩ = some (.pointer (some ⟨q, 0, none⟩)) := c0
    clear c0
    go_enter Try.func31, Try.ntmps31
    go_wp2
    go_ret
    exact ⟨rfl, HF.out⟩
end Go.Proofs.Ytclaadiclgfbmaa
namespace Go.Proofs.Ytclaadiclgfbmaa
open Go.RowKit Go.Shelf

set_option maxHeartbeats 400000 in
theorem refShared_any (a b : ByteArray) (w : World) (ha : a.size ≤ 9223372036854775807) (_hb : b.size ≤ 9223372036854775807) :
    Calls Try.prog 168 #[.string a, .string b] w fun e w' => e = .returned (.int .i64 (sharedT a b)) ∧ Below w.heap.size w w' := by
  go_enter Try.func168, Try.ntmps168
  go_wp2
  go_loopw [5] (fun i wr => ∃ k : Nat, k ≤ a.size ∧ k ≤ b.size ∧ i = .int .i64 k ∧ k ≤ sharedT a b ∧ Below w.heap.size w wr) (fun i _ => a.size - (intOf i).toNat)
  case atStart => exact ⟨0, Nat.zero_le _, Nat.zero_le _, rfl, Nat.zero_le _, Below.refl _ _⟩
  case round =>
    obtain ⟨k, hka, hkb, rfl, hs, hbw⟩ := hrel
    by_cases hla : k < a.size
    · have d1 : decide ((k : Int) < (a.size : Int)) = true := decide_eq_true (by omega)
      by_cases hlb : k < b.size
      · have d2 : decide ((k : Int) < (b.size : Int)) = true := decide_eq_true (by omega)
        by_cases he : a[k] = b[k]
        · have HS := Lib.hid (sharedT_step hla hlb hs he)
          have he1 : (((a[k]).toNat : Int) == ((b[k]).toNat : Int)) = true := by rw [he]; simp
          clear he
          go_wp2
          go_quiet (fail)
          replace hbw := below_drewN hbw nq
          generalize wr.drewN nq = w2 at hbw ⊢
          go_wp2
          exact ⟨⟨k + 1, by omega, by omega, by go_num, HS.out, hbw⟩, by simp [intOf]; omega⟩
        · have HS := Lib.hid (sharedT_stop hla hlb hs he)
          have he1 := byte_nbeq he
          clear he
          go_wp2
          go_quiet (fail)
          replace hbw := below_drewN hbw nq
          generalize wr.drewN nq = w2 at hbw ⊢
          go_wp2
          go_ret
          exact ⟨ret_nat HS.out, hbw⟩
      · have d2 : decide ((k : Int) < (b.size : Int)) = false := decide_eq_false (by omega)
        have HS := Lib.hid (sharedT_end (a := a) (b := b) (k := k) (by omega) hs)
        go_wp2
        go_quiet (fail)
        replace hbw := below_drewN hbw nq
        generalize wr.drewN nq = w2 at hbw ⊢
        go_wp2
        go_ret
        exact ⟨ret_nat HS.out, hbw⟩
    · have d1 : decide ((k : Int) < (a.size : Int)) = false := decide_eq_false (by omega)
      have HS := Lib.hid (sharedT_end (a := a) (b := b) (k := k) (by omega) hs)
      go_wp2
      go_quiet (fail)
      replace hbw := below_drewN hbw nq
      generalize wr.drewN nq = w2 at hbw ⊢
      go_wp2
      go_ret
      exact ⟨ret_nat HS.out, hbw⟩

set_option maxHeartbeats 400000 in
theorem refLess_any (a b : ByteArray) (w : World) (ha : a.size ≤ 9223372036854775807) (hb : b.size ≤ 9223372036854775807) :
    Calls Try.prog 135 #[.string a, .string b] w fun e w' => e = .returned (.bool (lessT a b)) ∧ Below w.heap.size w w' := by
  have q20 := refShared_any a b w ha hb
  have hl := lessT_eq a b
  have h1 := sharedT_le_left a b
  have h2 := sharedT_le_right a b
  obtain ⟨n, hn⟩ : ∃ n, sharedT a b = n := ⟨_, rfl⟩
  obtain ⟨r, hr⟩ : ∃ r, lessT a b = r := ⟨_, rfl⟩
  rw [hn] at q20 hl h1 h2
  rw [hr] at hl ⊢
  clear hn hr
  by_cases he : n = a.size
  · have g1 : ((n : Int) == (a.size : Int)) = true := by rw [beq_iff_eq]; omega
    rw [if_pos he] at hl
    by_cases hb' : n < b.size
    · have HL := Lib.hid (hl.trans (decide_eq_true hb'))
      have d1 : decide ((n : Int) < (b.size : Int)) = true := decide_eq_true (by omega)
      clear hl he
      go_enter Try.func135, Try.ntmps135
      go_wp2_with (go_at_call 168; go_must (refine q20.mono ?_); rintro e w1 ⟨rfl, hb1⟩)
      go_ret
      exact ⟨by rw [HL.out]; rfl, hb1⟩
    · have HL := Lib.hid (hl.trans (decide_eq_false hb'))
      have d1 : decide ((n : Int) < (b.size : Int)) = false := decide_eq_false (by omega)
      clear hl he
      go_enter Try.func135, Try.ntmps135
      go_wp2_with (go_at_call 168; go_must (refine q20.mono ?_); rintro e w1 ⟨rfl, hb1⟩)
      go_ret
      exact ⟨by rw [HL.out]; rfl, hb1⟩
  · have g1 : ((n : Int) == (a.size : Int)) = false := by rw [beq_eq_false_iff_ne]; omega
    have hna : n < a.size := by omega
    rw [if_neg he] at hl
    by_cases hb' : n < b.size
    · rw [decide_eq_true hb', Bool.true_and, byte_getD a n hna, byte_getD b n hb'] at hl
      have d1 : decide ((n : Int) < (b.size : Int)) = true := decide_eq_true (by omega)
      by_cases hc : a[n].toNat < b[n].toNat
      · have HL := Lib.hid (hl.trans (decide_eq_true hc))
        have d2 : decide ((a[n].toNat : Int) < (b[n].toNat : Int)) = true := decide_eq_true (by omega)
        clear hl he
        go_enter Try.func135, Try.ntmps135
        go_wp2_with (go_at_call 168; go_must (refine q20.mono ?_); rintro e w1 ⟨rfl, hb1⟩)
        go_quiet (fail)
        replace hb1 := below_drewN hb1 nq
        generalize w1.drewN nq = w2 at hb1 ⊢
        go_wp2
        go_ret
        exact ⟨by rw [HL.out]; rfl, hb1⟩
      · have HL := Lib.hid (hl.trans (decide_eq_false hc))
        have d2 : decide ((a[n].toNat : Int) < (b[n].toNat : Int)) = false := decide_eq_false (by omega)
        clear hl he
        go_enter Try.func135, Try.ntmps135
        go_wp2_with (go_at_call 168; go_must (refine q20.mono ?_); rintro e w1 ⟨rfl, hb1⟩)
        go_quiet (fail)
        replace hb1 := below_drewN hb1 nq
        generalize w1.drewN nq = w2 at hb1 ⊢
        go_wp2
        go_ret
        exact ⟨by rw [HL.out]; rfl, hb1⟩
    · rw [decide_eq_false hb', Bool.false_and] at hl
      have HL := Lib.hid hl
      have d1 : decide ((n : Int) < (b.size : Int)) = false := decide_eq_false (by omega)
      clear hl he
      go_enter Try.func135, Try.ntmps135
      go_wp2_with (go_at_call 168; go_must (refine q20.mono ?_); rintro e w1 ⟨rfl, hb1⟩)
      go_quiet (fail)
      replace hb1 := below_drewN hb1 nq
      generalize w1.drewN nq = w2 at hb1 ⊢
      go_wp2
      go_ret
      exact ⟨by rw [HL.out]; rfl, hb1⟩

/-! ### Words -/

theorem nearFrom_drop (l : List ByteArray) (x : ByteArray) (i n : Nat) (h : i < l.length) : Plain.nearFrom i n (bl (l.drop i)) x.data.toList = if at' l i = x then (i, true) else Plain.nearFrom (i + 1) (if lessT (at' l i) x = true then n + 1 else n) (bl (l.drop (i + 1))) x.data.toList := by
  rw [List.drop_eq_getElem_cons h, at_lt h]
  show Plain.nearFrom i n (l[i].data.toList :: bl (l.drop (i + 1))) _ = _
  rw [Plain.nearFrom]
  by_cases e : l[i] = x
  · rw [if_pos (by rw [e]), if_pos e]
  · rw [if_neg (fun h => e (ba_ext h)), if_neg e]
    rfl

set_option maxHeartbeats 800000 in
theorem refNear_any (l : List ByteArray) (v : Value) (x : ByteArray) (w : World) (hv : Strs w v l) (hl : Short l) (hx : x.size ≤ 9223372036854775807) (hlen : l.length ≤ 9223372036854775806) :
    Calls Try.prog 78 #[v, .string x] w fun e w' => e = .returned (.tuple #[.int .i64 ((Plain.near (bl l) x.data.toList).1 : Nat), .bool (Plain.near (bl l) x.data.toList).2]) ∧ Below w.heap.size w w' := by
  obtain ⟨ad, c, rfl, hc⟩ := strs_cell hv
  obtain ⟨R, hR⟩ : ∃ R, R = Plain.near (bl l) x.data.toList := ⟨_, rfl⟩
  have HR := Lib.hid hR
  rw [← hR]
  clear hR
  go_enter Try.func78, Try.ntmps78
  go_wp2
  go_loopw [6, 7] (fun v6 i wr => ∃ k n : Nat, k ≤ l.length ∧ n ≤ k ∧ i = .int .i64 k ∧ v6 = .int .i64 n ∧ Plain.nearFrom k n (bl (l.drop k)) x.data.toList = R ∧ Below w.heap.size w wr) (fun _ i _ => l.length - (intOf i).toNat)
  case atStart => exact ⟨0, 0, Nat.zero_le _, Nat.le_refl _, rfl, rfl, HR.out.symm, Below.refl _ _⟩
  case round =>
    obtain ⟨k, n, hk, hnk, rfl, rfl, hrow, hb⟩ := hrel
    by_cases hlt : k < l.length
    · rw [nearFrom_drop l x k n hlt] at hrow
      obtain ⟨b, o, rfl, hcell⟩ := hc k hlt
      have hcell' := (hb.cell (p := ⟨b, o + k, none⟩) (block_lt_of_cell hcell)).trans hcell
      have hyz := short_at hl k
      obtain ⟨y, hy⟩ : ∃ y, y = at' l k := ⟨_, rfl⟩
      rw [← hy] at hcell' hrow hyz
      clear hcell
      by_cases he : y = x
      · rw [if_pos he] at hrow
        have HROW := Lib.hid hrow
        have d : (y.toList == x.toList) = true := by rw [toList_beq]; exact decide_eq_true he
        clear hrow hc hy he
        go_wp2
        go_ret2
        exact ⟨by rw [← HROW.out]; rfl, hb⟩
      · rw [if_neg he] at hrow
        have d : (y.toList == x.toList) = false := by rw [toList_beq]; exact decide_eq_false he
        have q19 := fun w0 => refLess_any y x w0 hyz hx
        obtain ⟨r, hr⟩ : ∃ r, lessT y x = r := ⟨_, rfl⟩
        rw [hr] at q19 hrow
        cases r
        · rw [if_neg (by simp)] at hrow
          have HROW := Lib.hid hrow
          clear hrow hc hy he hr
          go_wp2_with (go_at_call 135; go_must (with_reducible refine (q19 _).mono ?_); rintro e w1 ⟨rfl, hb1⟩; replace hb := Below.next hb hb1; clear hb1)
          exact ⟨⟨k + 1, n, by omega, by omega, by go_num, rfl, HROW.out, hb⟩, by simp [intOf]; omega⟩
        · rw [if_pos rfl] at hrow
          have HROW := Lib.hid hrow
          clear hrow hc hy he hr
          go_wp2_with (go_at_call 135; go_must (with_reducible refine (q19 _).mono ?_); rintro e w1 ⟨rfl, hb1⟩; replace hb := Below.next hb hb1; clear hb1)
          exact ⟨⟨k + 1, n + 1, by omega, by omega, by go_num, by go_num, HROW.out, hb⟩, by simp [intOf]; omega⟩
    · have HE : Hid (R = (n, false)) := Lib.hid (by
        rw [← hrow, List.drop_eq_nil_of_le (by omega)]; rfl)
      clear hc hrow
      go_wp2
      go_ret2
      exact ⟨by rw [HE.out]; rfl, hb⟩
end Go.Proofs.Ytclaadiclgfbmaa
namespace Go.Proofs.Ytclaadiclgfbmaa
open Go.RowKit Go.Shelf

/-- Block R has this list. -/
def RefT (w : World) (R : Nat) (A : List Ent) : Prop :=
  ∃ ad c, Boxed w R 28 (.slice ad A.length c) ∧ A.length ≤ c ∧ c ≤ 9223372036854775807 ∧ Ents w (.slice ad A.length c) A
theorem RefT.below {w w' : World} {R : Nat} {A : List Ent} (h : RefT w R A) (hb : Below w.heap.size w w') : RefT w' R A := by
  obtain ⟨ad, c, h1, h2, h3, h4⟩ := h
  exact ⟨ad, c, boxed_below h1 hb, h2, h3, h4.below hb⟩
theorem RefT.lt {w : World} {R : Nat} {A : List Ent} (h : RefT w R A) : R < w.heap.size := by
  obtain ⟨ad, c, h1, _⟩ := h
  exact h1.lt

theorem find_step {A : List Ent} {i : Nat} (h : i < A.length) (s : ByteArray) (hb : ∀ x ∈ A.take i, x.word ≠ s) (he : (ent A i).word ≠ s) : ∀ x ∈ A.take (i + 1), x.word ≠ s := by
  intro x hx
  rw [take_ent A i h] at hx
  rcases List.mem_append.1 hx with hx | hx
  · exact hb x hx
  · rw [List.mem_singleton] at hx; rw [hx]; exact he
theorem get_at {t : Tr} {i : Nat} (h : i < (t.all []).length) : t.get (ent (t.all []) i).word.data.toList = some ((ent (t.all []) i).weight, (ent (t.all []) i).gone) := get_own (ent_mem h)
theorem get_none {t : Tr} {s : ByteArray} (h : ∀ x ∈ t.all [], x.word ≠ s) : t.get s.data.toList = none := by
  cases e : t.get s.data.toList with
  | none => rfl
  | some y =>
    exfalso
    exact h ⟨s, y.1, y.2⟩ ((Tr.mem_all t [] _).2 ⟨s.data.toList, rfl, e⟩) rfl

set_option maxRecDepth 100000 in
set_option maxHeartbeats 1000000 in
theorem rsize_any (A : List Ent) (R : Nat) (w : World) (h : RefT w R A) (hl : A.length ≤ 500) (hs : ∀ x ∈ A, x.word.size ≤ 255) :
    Calls Try.prog 20 #[.pointer (some ⟨R, 0, none⟩)] w fun e w' => e = .returned (.int .i64 (sizeE A : Int)) ∧ Below w.heap.size w w' := by
  obtain ⟨ad, c, h1, h2, h3, h4⟩ := h
  obtain ⟨ad', c', hv, hx⟩ := h4
  cases hv
  have c0 := h1.cell
  have HX := Lib.hid hx
  have HSZ : Hid (∀ i, sizeE (A.take i) ≤ 200000) := Lib.hid fun i => by
    have h1 := sizeE_le (A.take i) (fun x hx => hs x (List.mem_of_mem_take hx))
    have h2 : (A.take i).length ≤ 500 := by rw [List.length_take]; omega
    omega
  have HS := Lib.hid hs
  clear hx h1 h2 h3 hs
  go_enter Try.func20, Try.ntmps20
  go_wp2
  go_loop [3, 4] (fun s3 s4 => ∃ i : Nat, i ≤ A.length ∧ s4 = .int .i64 i ∧ s3 = .int .i64 (sizeE (A.take i) : Int)) (fun _ s4 => A.length - (intOf s4).toNat)
  case atStart => exact ⟨0, Nat.zero_le _, rfl, rfl⟩
  case round =>
    obtain ⟨i, hi, rfl, rfl⟩ := hrel
    by_cases hlt : i < A.length
    · obtain ⟨b, o, rfl, hE⟩ := HX.out i hlt
      have k1 := hE.1
      have hxs := HS.out _ (ent_mem hlt)
      have hsz := HSZ.out i
      have HSN := Lib.hid (sizeE_next A i hlt)
      clear hE
      go_wp2
      go_round
      case rel => exact ⟨i + 1, by omega, by go_num, by rw [HSN.out]; go_num⟩
      case measure => simp [intOf]; omega
    · obtain rfl : i = A.length := by omega
      rw [List.take_length]
      go_wp2
      go_ret
      exact ⟨rfl, Below.refl _ _⟩

set_option maxRecDepth 100000 in
set_option maxHeartbeats 2000000 in
theorem rget_any (t : Tr) (R : Nat) (s : ByteArray) (w : World) (h : RefT w R (t.all [])) (hl : (t.all []).length ≤ 500) :
    Calls Try.prog 24 #[.pointer (some ⟨R, 0, none⟩), .string s] w fun e w' => e = .returned (gotV t s) ∧ Below w.heap.size w w' := by
  obtain ⟨A, hA⟩ : ∃ A, A = t.all [] := ⟨_, rfl⟩
  rw [← hA] at h hl
  have HA := Lib.hid hA
  obtain ⟨ad, c, h1, h2, h3, h4⟩ := h
  obtain ⟨ad', c', hv, hx⟩ := h4
  cases hv
  have HX := Lib.hid (fun W (hb : Below w.heap.size w W) i (hi : i < A.length) => (by obtain ⟨b, o, e1, e2⟩ := hx i hi; exact ⟨b, o, e1, e2.below hb⟩ : ∃ b o, ad = some ⟨b, o, none⟩ ∧ EntAt W b (o + i * 3) (ent A i)))
  have HR := Lib.hid (fun W (hb : Below w.heap.size w W) => (boxed_below h1 hb).cell)
  have hRl := h1.lt
  clear hx h1 h2 h3 hA
  have hb0 := below_alloc w (.cells #[.string ⟨#[]⟩, .int .u32 0, .bool false] 33)
  have c0 := HR.out _ hb0
  have H0 := Lib.hid hb0
  have hRn : R ≠ w.heap.size := Nat.ne_of_lt hRl
  have e0 := box_kept (Below.refl _ (w.alloc (.cells #[.string ⟨#[]⟩, .int .u32 0, .bool false] 33)))
  clear hb0
  go_enter Try.func24, Try.ntmps24
  go_wp2
  go_loop [6] (fun s6 => ∃ i : Nat, i ≤ A.length ∧ s6 = .int .i64 i ∧ Hid (∀ x ∈ A.take i, x.word ≠ s)) (fun s6 => A.length - (intOf s6).toNat)
  case atStart => exact ⟨0, Nat.zero_le _, rfl, Lib.hid (fun x hx => by simp at hx)⟩
  case round =>
    obtain ⟨i, hi, rfl, HI⟩ := hrel
    by_cases hlt : i < A.length
    · obtain ⟨b, o, rfl, hE⟩ := HX.out _ H0.out i hlt
      obtain ⟨k1, k2, k3⟩ := hE
      by_cases he : (ent A i).word = s
      · have d : ((ent A i).word.toList == s.toList) = true := by rw [toList_beq]; exact decide_eq_true he
        have HG : Hid (gotV t s = .tuple #[.agg #[.string (ent A i).word, .int .u32 ((ent A i).weight : Int), .bool (ent A i).gone], .bool true]) := Lib.hid (by
          have := get_at (t := t) (i := i) (by rw [← HA.out]; exact hlt)
          rw [← HA.out, he] at this
          rw [gotV_some this, he])
        clear he HI
        go_wp2
        exact bodyPost_ret (v := .tuple #[.agg #[.string (ent A i).word, .int .u32 ((ent A i).weight : Int), .bool (ent A i).gone], .bool true]) (by simp [results, Try.results24, go_sem]) rfl ⟨by rw [HG.out], by repeat (first | exact H0.out | exact below_alloc _ _ | (refine Below.setCell ?_ (Nat.le_refl _) _))⟩
      · have d : ((ent A i).word.toList == s.toList) = false := by rw [toList_beq]; exact decide_eq_false he
        have HN := Lib.hid (find_step hlt s HI.out he)
        clear he
        go_wp2
        go_round
        case rel => exact ⟨i + 1, by omega, by go_num, HN⟩
        case measure => simp [intOf]; omega
    · obtain rfl : i = A.length := by omega
      have HG : Hid (gotV t s = .tuple #[.agg #[.string ⟨#[]⟩, .int .u32 0, .bool false], .bool false]) := Lib.hid (by
        have := HI.out
        rw [List.take_length, HA.out] at this
        exact gotV_none (get_none this))
      clear HI
      go_wp2
      exact bodyPost_ret (v := .tuple #[.agg #[.string ⟨#[]⟩, .int .u32 0, .bool false], .bool false]) (by simp [results, Try.results24, go_sem]) rfl ⟨by rw [HG.out], below_alloc _ _⟩

theorem hasPrefix_yes {a b : ByteArray} (h : a.size ≤ b.size) (he : ((b.extract 0 a.size).toList == a.toList) = true) : Lib.hasPrefix b.data.toList a.data.toList = true := by
  have := Lib.hasPrefix_raw b a
  rw [he, decide_eq_true h] at this
  exact this.symm
theorem hasPrefix_is (a b : ByteArray) (h : a.size ≤ b.size) : ((b.extract 0 a.size).toList == a.toList) = Lib.hasPrefix b.data.toList a.data.toList := by
  have := Lib.hasPrefix_raw b a
  rw [decide_eq_true h, Bool.true_and] at this
  exact this
theorem hasPrefix_not (a b : ByteArray) (h : ¬ a.size ≤ b.size) : Lib.hasPrefix b.data.toList a.data.toList = false := by
  have := Lib.hasPrefix_raw b a
  rw [decide_eq_false h, Bool.false_and] at this
  exact this.symm

set_option maxRecDepth 100000 in
set_option maxHeartbeats 1000000 in
theorem begins_any (a b : ByteArray) (w : World) (ha : a.size ≤ 9223372036854775807) (hb : b.size ≤ 9223372036854775807) :
    Calls Try.prog 83 #[.string a, .string b] w fun e w' => e = .returned (.bool (Lib.hasPrefix b.data.toList a.data.toList)) ∧ w = w' := by
  obtain ⟨r, hr⟩ : ∃ r, r = Lib.hasPrefix b.data.toList a.data.toList := ⟨_, rfl⟩
  rw [← hr]
  by_cases h : a.size ≤ b.size
  · have d0 : decide (a.size ≤ b.size) = true := decide_eq_true h
    have d1 : decide ((a.size : Int) ≤ (b.size : Int)) = true := decide_eq_true (by omega)
    have e := hasPrefix_is a b h
    rw [← hr] at e
    clear hr
    go_enter Try.func83, Try.ntmps83
    go_wp2
    go_ret
    exact ⟨rfl, rfl⟩
  · have d0 : decide (a.size ≤ b.size) = false := decide_eq_false h
    have d1 : decide ((a.size : Int) ≤ (b.size : Int)) = false := decide_eq_false (by omega)
    rw [hasPrefix_not a b h] at hr
    subst hr
    go_enter Try.func83, Try.ntmps83
    go_wp2
    go_ret
    exact ⟨rfl, rfl⟩

set_option maxRecDepth 100000 in
set_option maxHeartbeats 2000000 in
theorem runder_any (A : List Ent) (R : Nat) (s : ByteArray) (w : World) (h : RefT w R A) (hl : A.length ≤ 500) (hA : ∀ x ∈ A, x.word.size ≤ 255) (hs : s.size ≤ 1000) :
    Calls Try.prog 26 #[.pointer (some ⟨R, 0, none⟩), .string s] w fun e w' => ∃ v, e = .returned v ∧ w'.ownsRow w.heap.size 33 3 v (underT A s.data.toList).length (ents (underT A s.data.toList)) ∧ Below w.heap.size w w' := by
  obtain ⟨ad, c, h1, h2, h3, h4⟩ := h
  obtain ⟨ad', c', hv, hx⟩ := h4
  cases hv
  have HX := Lib.hid (fun W (hb : Below w.heap.size w W) i (hi : i < A.length) => (by obtain ⟨b, o, e1, e2⟩ := hx i hi; exact ⟨b, o, e1, e2.below hb⟩ : ∃ b o, ad = some ⟨b, o, none⟩ ∧ EntAt W b (o + i * 3) (ent A i)))
  have HR := Lib.hid (fun W (hb : Below w.heap.size w W) => (boxed_below h1 hb).cell)
  have hRl := h1.lt
  have HAS := Lib.hid hA
  clear hx h1 h2 h3 hA
  go_enter Try.func26, Try.ntmps26
  go_wp2
  go_loopw [5, 6] (fun s5 s6 wr => ∃ i : Nat, i ≤ A.length ∧ s6 = .int .i64 i ∧ Hid (wr.ownsRow w.heap.size 33 3 s5 (underT (A.take i) s.data.toList).length (ents (underT (A.take i) s.data.toList)) ∧ Below w.heap.size w wr)) (fun _ s6 _ => A.length - (intOf s6).toNat)
  case atStart => exact ⟨0, Nat.zero_le _, rfl, Lib.hid ⟨ownsE_nil _ _, Below.refl _ _⟩⟩
  case round =>
    obtain ⟨i, hi, rfl, HI⟩ := hrel
    have cR := HR.out _ HI.out.2
    by_cases hlti : i < A.length
    · obtain ⟨b, o, rfl, hE⟩ := HX.out _ HI.out.2 i hlti
      obtain ⟨k1, k2, k3⟩ := hE
      have hys := HAS.out _ (ent_mem hlti)
      have q63 := fun (W : World) => begins_any s (ent A i).word W (by omega) (by omega)
      cases hp : Lib.hasPrefix (ent A i).word.data.toList s.data.toList with
      | true =>
        have HU := Lib.hid (under_yes hlti s.data.toList hp)
        rw [hp] at q63
        obtain ⟨y, hy⟩ : ∃ y, ent A i = y := ⟨_, rfl⟩
        rw [hy] at k1 k2 k3 hys hp HU q63
        obtain ⟨O, hO⟩ : ∃ O, underT (A.take i) s.data.toList = O := ⟨_, rfl⟩
        rw [hO] at HI HU
        have hOl : O.length ≤ 500 := by rw [← hO]; exact Nat.le_trans (under_length _ _) (by rw [List.length_take]; omega)
        have HO1 := Lib.hid (HI.out.1.alloc (.cells #[.string y.word, .int .u32 (y.weight : Int), .bool y.gone] 33))
        have HO2 := Lib.hid (ents_single (w := wr) (x := y) (g := wr.heap.size) rfl)
        have hsz := HI.out.2.size
        clear hy hO hp
        go_wp2_with (first
          | (go_at_call 83; (with_reducible refine Calls.mono (q63 _) ?_); rintro e w6 ⟨rfl, rfl⟩)
          | (at_builtin; refine wpList_append_ents rfl _ _ rfl rfl w.heap.size _ _ O [y] rfl rfl HO1.out HO2.out (by simp; omega) (by simp; omega) ?_; intro v' w' o1 g1))
        exact ⟨⟨i + 1, by omega, by go_num, Lib.hid ⟨by rw [HU.out]; exact o1, (below_alloc' HI.out.2).grown g1 (by simp; omega) (fun j hj => (HI.out.1.lt j hj).1)⟩⟩, by simp [intOf]; omega⟩
      | false =>
        have HU := Lib.hid (under_no hlti s.data.toList hp)
        rw [hp] at q63
        clear hp
        go_wp2_with (go_at_call 83; (with_reducible refine Calls.mono (q63 _) ?_); rintro e w6 ⟨rfl, rfl⟩)
        exact ⟨⟨i + 1, by omega, by go_num, Lib.hid ⟨by rw [HU.out]; exact HI.out.1, HI.out.2⟩⟩, by simp [intOf]; omega⟩
    · obtain rfl : i = A.length := by omega
      rw [List.take_length] at HI
      go_wp2
      go_ret
      exact ⟨_, rfl, HI.out⟩

set_option maxRecDepth 100000 in
set_option maxHeartbeats 1000000 in
theorem ris_any (A : List Ent) (R : Nat) (s : ByteArray) (w : World) (h : RefT w R A) (hl : A.length ≤ 500) (hA : ∀ x ∈ A, x.word.size ≤ 255) (hs : s.size ≤ 1000) :
    Calls Try.prog 84 #[.pointer (some ⟨R, 0, none⟩), .string s] w fun e w' => e = .returned (.bool (!(underT A s.data.toList).isEmpty || s.data.toList.isEmpty)) ∧ Below w.heap.size w w' := by
  have q := runder_any A R s w h hl hA hs
  have HQ : Hid (Calls Try.prog 26 #[.pointer (some ⟨R, 0, none⟩), .string s] w fun e w' => ∃ ad c, e = .returned (.slice ad (underT A s.data.toList).length c) ∧ Below w.heap.size w w') := Lib.hid (by
    refine q.mono ?_
    rintro e w' ⟨v, rfl, ho, hb⟩
    obtain ⟨ad, c, rfl, _⟩ := ents_of_owns ho
    exact ⟨ad, c, rfl, hb⟩)
  clear q
  obtain ⟨n, hn⟩ : ∃ n, n = (underT A s.data.toList).length := ⟨_, rfl⟩
  have HN : Hid ((underT A s.data.toList).isEmpty = decide (n = 0)) := Lib.hid (by
    rw [hn]; cases underT A s.data.toList <;> simp)
  rw [← hn] at HQ
  clear hn h hA
  by_cases he : s = ⟨#[]⟩
  · subst he
    have HR : Hid ((!(underT A (⟨#[]⟩ : ByteArray).data.toList).isEmpty || (⟨#[]⟩ : ByteArray).data.toList.isEmpty) = true) := Lib.hid (by simp)
    go_enter Try.func84, Try.ntmps84
    go_wp2_with fail
    go_ret
    exact ⟨by first | rfl | (rw [HR.out]; rfl), Below.refl _ _⟩
  · have t1 : (s.toList == []) = false := by
      have := toList_beq s ⟨#[]⟩
      rw [decide_eq_false he, show (⟨#[]⟩ : ByteArray).toList = [] from by rw [ByteArray.toList_eq]] at this
      exact this
    have t2 : s.toList.isEmpty = false := by
      cases h : s.toList with
      | nil => rw [h] at t1; cases t1
      | cons _ _ => rfl
    have t3 : ¬ s.toList = [] := fun h => by rw [h] at t1; cases t1
    have t4 : s.data.toList.isEmpty = false := by rw [← ByteArray.toList_eq]; exact t2
    have HR : Hid ((!(underT A s.data.toList).isEmpty || s.data.toList.isEmpty) = decide (0 < n)) := Lib.hid (by
      rw [HN.out, t4, Bool.or_false]
      by_cases h : n = 0
      · rw [h]; rfl
      · rw [decide_eq_false h, decide_eq_true (by omega : 0 < n)]; rfl)
    clear he t4
    by_cases h0 : 0 < n
    · have d0 : decide ((0 : Int) < (n : Int)) = true := decide_eq_true (by omega)
      rw [decide_eq_true h0] at HR
      go_enter Try.func84, Try.ntmps84
      go_wp2_with (go_at_call 26; (with_reducible refine Calls.mono HQ.out ?_); rintro e w6 ⟨ad, c, rfl, hb⟩; have HB := Lib.hid hb; clear hb)
      go_ret
      exact ⟨by first | rfl | (rw [HR.out]; rfl), HB.out⟩
    · have d0 : decide ((0 : Int) < (n : Int)) = false := decide_eq_false (by omega)
      rw [decide_eq_false h0] at HR
      go_enter Try.func84, Try.ntmps84
      go_wp2_with (go_at_call 26; (with_reducible refine Calls.mono HQ.out ?_); rintro e w6 ⟨ad, c, rfl, hb⟩; have HB := Lib.hid hb; clear hb)
      go_ret
      exact ⟨by first | rfl | (rw [HR.out]; rfl), HB.out⟩
end Go.Proofs.Ytclaadiclgfbmaa
namespace Go.Proofs.Ytclaadiclgfbmaa
open Go.RowKit Go.Shelf

theorem bytes256_at (i : Nat) (h : i < 256) : bytes256.take (i + 1) = bytes256.take i ++ [UInt8.ofNat i] := by
  have hl : bytes256.length = 256 := by simp [bytes256]
  rw [List.take_succ_eq_append_getElem (by omega)]
  congr 2
  simp [bytes256]
def keysP (A : List Ent) (s : List UInt8) (i : Nat) : List UInt8 := (bytes256.take i).filter fun b => !(underT A (s ++ [b])).isEmpty
theorem keysP_yes {A : List Ent} {s : List UInt8} {i : Nat} (h : i < 256) (hp : (!(underT A (s ++ [UInt8.ofNat i])).isEmpty) = true) : keysP A s (i + 1) = keysP A s i ++ [UInt8.ofNat i] := by
  unfold keysP; rw [bytes256_at i h, List.filter_append, List.filter_cons, if_pos hp]; rfl
theorem keysP_no {A : List Ent} {s : List UInt8} {i : Nat} (h : i < 256) (hp : (!(underT A (s ++ [UInt8.ofNat i])).isEmpty) = false) : keysP A s (i + 1) = keysP A s i := by
  unfold keysP; rw [bytes256_at i h, List.filter_append, List.filter_cons, if_neg (by rw [hp]; simp)]; simp
theorem keysP_all (A : List Ent) (s : List UInt8) : keysP A s 256 = keysL A s := by
  unfold keysP keysL
  rw [List.take_of_length_le (by simp [bytes256])]
theorem keysP_le (A : List Ent) (s : List UInt8) (i : Nat) : (keysP A s i).length ≤ 256 := Nat.le_trans (List.length_filter_le ..) (by rw [List.length_take]; simp [bytes256]; omega)

set_option maxRecDepth 100000 in
set_option maxHeartbeats 4000000 in
theorem rbytes_any (A : List Ent) (R : Nat) (s : ByteArray) (w : World) (h : RefT w R A) (hl : A.length ≤ 500) (hA : ∀ x ∈ A, x.word.size ≤ 255) (hs : s.size ≤ 900) :
    Calls Try.prog 86 #[.pointer (some ⟨R, 0, none⟩), .string s] w fun e w' => ∃ v, e = .returned v ∧ BRow w' v (keysL A s.data.toList) ∧ Below w.heap.size w w' := by
  have HI : Hid (∀ (i : Nat) W, i < 256 → Below w.heap.size w W → Calls Try.prog 84 #[.pointer (some ⟨R, 0, none⟩), .string (s ++ ⟨#[UInt8.ofNat i]⟩)] W fun e w' => e = .returned (.bool (!(underT A (s.data.toList ++ [UInt8.ofNat i])).isEmpty)) ∧ Below W.heap.size W w') := Lib.hid fun i W hi hb => by
    have := ris_any A R (s ++ ⟨#[UInt8.ofNat i]⟩) W (h.below hb) hl hA (by rw [ByteArray.size_append]; have : (⟨#[UInt8.ofNat i]⟩ : ByteArray).size = 1 := rfl; omega)
    rw [toList_snoc, show (s.data.toList ++ [UInt8.ofNat i]).isEmpty = false by simp, Bool.or_false] at this
    exact this
  clear h hA
  go_enter Try.func86, Try.ntmps86
  go_wp2
  go_loopw [5, 6] (fun s5 s6 wr => ∃ i : Nat, i ≤ 256 ∧ s6 = .int .i64 i ∧ Hid (wr.ownsRow w.heap.size 5 1 s5 (keysP A s.data.toList i).length ((keysP A s.data.toList i).map enc8) ∧ Below w.heap.size w wr)) (fun _ s6 _ => 256 - (intOf s6).toNat)
  case atStart => exact ⟨0, by omega, rfl, Lib.hid ⟨World.ownsRow_nil w _ _ _, Below.refl _ _⟩⟩
  case round =>
    obtain ⟨i, hi, rfl, HJ⟩ := hrel
    by_cases hlt : i < 256
    · have e256 : decide ((i : Int) < 256) = true := decide_eq_true (by omega)
      have hov : ¬ 9223372036854775807 < (s.size : Int) + 1 := by omega
      have hw8' : IntKind.u8.wrap (i : Int) = (i : Int) := IntWalk.u8_in _ (by omega)
      obtain ⟨x, hx⟩ : ∃ x, x = UInt8.ofNat i := ⟨_, rfl⟩
      have hun : (x.toNat : Int) = (i : Int) := by rw [hx, UInt8.toNat_ofNat']; omega
      have HKY : Hid ((!(underT A (s.data.toList ++ [x])).isEmpty) = true → keysP A s.data.toList (i + 1) = keysP A s.data.toList i ++ [x]) := Lib.hid (by rw [hx]; exact keysP_yes hlt)
      have HKN : Hid ((!(underT A (s.data.toList ++ [x])).isEmpty) = false → keysP A s.data.toList (i + 1) = keysP A s.data.toList i) := Lib.hid (by rw [hx]; exact keysP_no hlt)
      have HII := Lib.hid (fun W hb => HI.out i W hlt hb)
      rw [← hx] at HII
      clear hx
      have hcv : ∀ W : World, (convert 58 9 (.slice (some ⟨W.heap.size, 0, none⟩) 1 1)).run Try.prog (W.alloc (.cells #[.int .u8 (i : Int)] 5)) = .ok (.string ⟨#[x]⟩) (W.alloc (.cells #[.int .u8 (i : Int)] 5)) := fun W => by
        have := conv_str (brow_one W x)
        rw [hun] at this
        exact this
      have HUN := Lib.hid hun
      clear hun
      cases hp : (!(underT A (s.data.toList ++ [x])).isEmpty) with
      | true =>
        have HK := Lib.hid (HKY.out hp)
        rw [hp] at HII
        clear hp
        obtain ⟨i0, hi0, hz0, hz1, hz2⟩ := info_parts i5'
        have HI0 := Lib.hid hi0
        have HZ0 := Lib.hid hz0
        have HZ1 := Lib.hid hz1
        have HZ2 := Lib.hid hz2
        clear hi0 hz0 hz1 hz2
        have HKL := Lib.hid (keysP_le A s.data.toList i)
        go_wp2_with (first | (at_builtin; refine wpList_append_own _ rfl _ _ 58 rfl w.heap.size 5 i0 (.int .u8 0) 1 1 Try.underlying58 HI0.out HZ0.out HZ1.out HZ2.out rfl (by decide) _ _ _ rfl ((owns_below' (HJ.out.1.alloc _) H6.out).alloc _) ⟨w6.heap.size, 0, none⟩ 1 1 [enc8 x] rfl rfl ?c1 ?c2 ?c3 ?c4 ?c5 ?_) | (go_at_call 84; (with_reducible refine Calls.mono (HII.out _ (below_alloc' HJ.out.2)) ?_); rintro e w6 ⟨rfl, hb6⟩; have H6 := Lib.hid hb6; clear hb6))
        case c1 =>
          intro j u hj
          cases j with
          | zero => simp at hj; subst hj; rw [show enc8 x = Value.int .u8 (i : Int) by unfold enc8; rw [HUN.out]]; simp [go_sem, Addr.add]
          | succ j => simp at hj
        case c2 => intro u hu; simp at hu; subst hu; rfl
        case c3 => have := HKL.out; unfold maxLen; omega
        case c4 => have := HKL.out; omega
        case c5 => have h1 := (Below.next (below_alloc' HJ.out.2) H6.out).size; simp; omega
        intro v' w1 hown1 hgrow _
        have HO1 := Lib.hid hown1
        have HG1 := Lib.hid hgrow
        clear hown1 hgrow
        go_wp2
        exact ⟨⟨i + 1, by omega, by go_num, Lib.hid ⟨by rw [HK.out, List.map_append, List.length_append]; exact HO1.out, Below.grown (below_alloc' (Below.next (below_alloc' HJ.out.2) H6.out)) HG1.out (by have h1 := (Below.next (below_alloc' HJ.out.2) H6.out).size; simp; omega) (fun k hk => (HJ.out.1.lt k hk).1)⟩⟩, by simp [intOf]; omega⟩
      | false =>
        have HK := Lib.hid (HKN.out hp)
        rw [hp] at HII
        clear hp
        go_wp2_with (go_at_call 84; (with_reducible refine Calls.mono (HII.out _ (below_alloc' HJ.out.2)) ?_); rintro e w6 ⟨rfl, hb6⟩; have H6 := Lib.hid hb6; clear hb6)
        exact ⟨⟨i + 1, by omega, by go_num, Lib.hid ⟨by rw [HK.out]; exact owns_below' (HJ.out.1.alloc _) H6.out, Below.next (below_alloc' HJ.out.2) H6.out⟩⟩, by simp [intOf]; omega⟩
    · obtain rfl : i = 256 := by omega
      rw [keysP_all] at HJ
      have HR : Hid (BRow wr u5 (keysL A s.data.toList)) := Lib.hid (brow_of_owns HJ.out.1)
      go_wp2
      go_ret
      exact ⟨_, rfl, HR.out, HJ.out.2⟩
end Go.Proofs.Ytclaadiclgfbmaa
namespace Go.Proofs.Ytclaadiclgfbmaa
open Go.RowKit Go.Shelf

theorem place_bl {A : List Ent} (hr : risingE A = true) (c : List UInt8) : Plain.place (A.map key) c = placeE A c := by
  induction A with
  | nil => rfl
  | cons x A ih =>
    rw [List.map_cons, Plain.place_cons, placeE_cons, ih (risingE_cons.1 hr).2]
    by_cases h : Plain.less (key x) c = true
    · rw [if_pos h, if_pos h]; omega
    · rw [if_neg h, if_neg h, Nat.zero_add]
      have h1 : ∀ y ∈ A, Plain.less (key y) c = false := fun y hy => by
        have hxy := (risingE_cons.1 hr).1 y hy
        cases e : Plain.less (key y) c with
        | false => rfl
        | true => exact absurd (show ltE x ⟨⟨c.toArray⟩, 0, false⟩ = true from ltE_trans hxy (show ltE y ⟨⟨c.toArray⟩, 0, false⟩ = true from e)) h
      cases A with
      | nil => rfl
      | cons y A => rw [placeE_cons, if_neg (by rw [h1 y (List.mem_cons_self ..)]; simp)]
theorem rising_bl : ∀ {A : List Ent}, risingE A = true → Plain.rising (A.map key) = true
  | [], _ => rfl
  | [_], _ => rfl
  | x :: y :: A, hr => by
    rw [show risingE (x :: y :: A) = (ltE x y && risingE (y :: A)) from rfl, Bool.and_eq_true] at hr
    rw [List.map_cons, List.map_cons, Plain.rising, Bool.and_eq_true]
    exact ⟨hr.1, rising_bl hr.2⟩
theorem bl_words (A : List Ent) : bl (A.map fun x => x.word) = A.map key := by
  unfold bl; rw [List.map_map]; rfl
theorem isE_mem (A : List Ent) (c : List UInt8) : isE A c = decide (c ∈ A.map key) := by
  unfold isE
  cases h : findE A c with
  | some x =>
    obtain ⟨h1, h2⟩ := findE_some h
    symm; exact decide_eq_true (List.mem_map.2 ⟨x, h1, h2⟩)
  | none =>
    symm; refine decide_eq_false fun hm => ?_
    obtain ⟨x, h1, h2⟩ := List.mem_map.1 hm
    exact findE_none.1 h x h1 h2

theorem putE_place : ∀ {A : List Ent}, risingE A = true → ∀ e : Ent, putE A e = A.take (placeE A (key e)) ++ e :: A.drop (placeE A (key e) + if isE A (key e) = true then 1 else 0)
  | [], _, e => rfl
  | x :: A, hr, e => by
    obtain ⟨h1, h2⟩ := risingE_cons.1 hr
    have ih := putE_place h2 e
    rw [placeE_cons]
    unfold putE
    by_cases c1 : ltE x e = true
    · have hk : key x ≠ key e := ltE_key _ _ c1
      rw [if_pos c1, if_pos (show Plain.less (key x) (key e) = true from c1), ih]
      have hi : isE (x :: A) (key e) = isE A (key e) := by unfold isE; rw [findE_cons, if_neg hk]
      rw [hi, List.take_succ_cons, List.cons_append, Nat.add_right_comm, List.drop_succ_cons]
    · rw [if_neg c1, if_neg (show ¬ Plain.less (key x) (key e) = true from c1)]
      by_cases c2 : ltE e x = true
      · have hi : isE (x :: A) (key e) = false := by
          unfold isE
          rw [findE_none.2 fun y hy => ?_]; rfl
          rcases List.mem_cons.1 hy with rfl | hy
          · exact (ltE_key _ _ c2).symm
          · exact (ltE_key _ _ (ltE_trans c2 (h1 y hy))).symm
        rw [if_pos c2, hi]; rfl
      · have hk : key x = key e := by
          by_cases h : key x = key e
          · exact h
          · exact absurd (ltE_of (by simpa using c1) h) c2
        have hi : isE (x :: A) (key e) = true := by unfold isE; rw [findE_cons, if_pos hk]; rfl
        rw [if_neg c2, hi]; rfl

theorem wpList_append_strs {w : World} {ops : Array Oper} {rest : List Oper} {o : Oper} {a : Act} {Q : Exit → Act → World → Prop} (hgd : o.guard = none) (s x : Operand)
    (hop : o.op = Op.call { callee := Callee.builtin Builtin.append, args := #[s, x], argTypes := #[37, 37] }) (ht : o.type = 37) (base : Nat) (v sl : Value) (A B : List ByteArray)
    (hs : a.eval s = v) (hx : a.eval x = sl) (hown : w.ownsRow base 9 1 v A.length (strs A)) (hB : Strs w sl B) (hlen : A.length + B.length ≤ 1000000) (hbase : base ≤ w.heap.size)
    (h : ∀ v' w', w'.ownsRow base 9 1 v' (A ++ B).length (strs (A ++ B)) → w.grownBy w' v.ownBlock → wpList Try.prog ops Q rest (a.put o.dst v') w') : wpList Try.prog ops Q (o :: rest) a w := by
  obtain ⟨v', w1, h1, h2, h3⟩ := run_append_strs w base v sl A B hown hB hlen hbase
  refine wpList_plain hgd fun _ hK => ?_
  unfold Oper.wp execOp
  simp only [hop, ht, resolve, invoke, builtin, Sem.run_bind, Sem.run_pure, Result.andThen_ok, List.map_toArray, List.map_cons, List.map_nil, hs, hx, h1]
  exact hK _ _ (h v' w1 h2 h3)

set_option maxRecDepth 100000 in
set_option maxHeartbeats 1000000 in
theorem words_any (A : List Ent) (v : Value) (w : World) (hv : Ents w v A) (hl : A.length ≤ 500) :
    Calls Try.prog 79 #[v] w fun e w' => ∃ v', e = .returned v' ∧ Strs w' v' (A.map fun x => x.word) ∧ Below w.heap.size w w' := by
  obtain ⟨ad, c, rfl, hx⟩ := ents_cell hv
  have HX := Lib.hid (fun W (hb : Below w.heap.size w W) i (hi : i < A.length) => (by obtain ⟨b, o, e1, e2⟩ := hx i hi; exact ⟨b, o, e1, e2.below hb⟩ : ∃ b o, ad = some ⟨b, o, none⟩ ∧ EntAt W b (o + i * 3) (ent A i)))
  clear hx hv
  go_enter Try.func79, Try.ntmps79
  go_wp2
  go_loopw [3, 4] (fun s3 s4 wr => ∃ i : Nat, i ≤ A.length ∧ s4 = .int .i64 i ∧ Hid (wr.ownsRow w.heap.size 9 1 s3 ((A.take i).map fun x => x.word).length (strs ((A.take i).map fun x => x.word)) ∧ Below w.heap.size w wr)) (fun _ s4 _ => A.length - (intOf s4).toNat)
  case atStart => exact ⟨0, Nat.zero_le _, rfl, Lib.hid ⟨World.ownsRow_nil w _ _ _, Below.refl _ _⟩⟩
  case round =>
    obtain ⟨i, hi, rfl, HI⟩ := hrel
    by_cases hlt : i < A.length
    · obtain ⟨b, o, rfl, hE⟩ := HX.out _ HI.out.2 i hlt
      have k1 := hE.1
      have HN : Hid ((A.take (i + 1)).map (fun x => x.word) = (A.take i).map (fun x => x.word) ++ [(ent A i).word]) := Lib.hid (by rw [take_ent A i hlt, List.map_append]; rfl)
      obtain ⟨X, hX⟩ : ∃ X, X = (A.take i).map fun x => x.word := ⟨_, rfl⟩
      have hXl : X.length ≤ 500 := by rw [hX, List.length_map, List.length_take]; omega
      rw [← hX] at HI HN
      have HO1 := Lib.hid (HI.out.1.alloc (.cells #[.string (ent A i).word] 9))
      have hsz := HI.out.2.size
      clear hX hE
      go_wp2_with (at_builtin; refine wpList_append_strs rfl _ _ rfl rfl w.heap.size _ _ X [(ent A i).word] rfl rfl HO1.out (strs_single rfl) (by simp; omega) (by simp; omega) ?_; intro v' w' o1 g1)
      exact ⟨⟨i + 1, by omega, by go_num, Lib.hid ⟨by rw [HN.out]; exact o1, (below_alloc' HI.out.2).grown g1 (by simp; omega) (fun j hj => (HI.out.1.lt j hj).1)⟩⟩, by simp [intOf]; omega⟩
    · obtain rfl : i = A.length := by omega
      rw [List.take_length] at HI
      go_wp2
      go_ret
      exact ⟨_, rfl, strs_of_owns HI.out.1, HI.out.2⟩
end Go.Proofs.Ytclaadiclgfbmaa

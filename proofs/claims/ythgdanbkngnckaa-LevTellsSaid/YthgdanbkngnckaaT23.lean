/-
  The map of states with their bytes. The map's bytes, in a row that rises.
-/
import Derived.Test.YthgdanbkngnckaaT09
import Derived.Maps.OwnOps
import Derived.Maps.OwnSet
import Derived.Maps.RangeWalk
import Derived.Sort.Walk0
import Derived.Test.YthgdanbkngnckaaT22
import Derived.Maps.OwnIn
import Derived.Sort.MapsRangeIn
import Derived.RangeFuncNested
import Derived.RangeFuncBound
import Derived.RangeFuncCalls
import Derived.RangeFuncLeaves
import Derived.RangeFuncBox
import Derived.Shelf.Abstract
import Derived.Shelf.RegionOpen
import Derived.OwnWalkIn
import Derived.TacticsInMore
import Derived.RegionIn
import Derived.LoopNIn
import Derived.LoopIn
import Derived.Test.YthgdanbkngnckaaT18
import Derived.Sort.WalkA14
import Derived.Sort.LotB
set_option linter.unusedVariables false
set_option linter.unusedSimpArgs false
namespace Go.Proofs.Ythgdanbkngnckaa
open Go.RowKit Go.Shelf

attribute [local go_sem] Oper.semAt_some

theorem keyS : Maps.Keyed Try.prog 32 := Maps.string_keyed Try.underlying32
theorem zeroU (w : World) : (zeroValue 5).run Try.prog w = .ok (.int .u8 0) w := by kernel_rfl
theorem key_str (k : ByteArray) (h : k.size ≤ 1000000000) : keyOf Try.prog 32 (.string k) = some (.string k.data.toList) := by
  rw [keyOf_string Try.underlying32]
  unfold mapKey
  rw [Try.underlying32]
  have : k.size ≤ maxLen := by
    unfold maxLen
    omega
  simp [this]
theorem key_str_inv {key : Value} {kl : Lit} (h : keyOf Try.prog 32 key = some kl) : ∃ k : ByteArray, key = .string k ∧ kl = .string k.data.toList := by
  obtain ⟨k, rfl⟩ := Maps.keyOf_string_inv Try.underlying32 h
  rw [keyOf_string Try.underlying32] at h
  unfold mapKey at h
  rw [Try.underlying32] at h
  refine ⟨k, rfl, ?_⟩
  by_cases hs : k.size ≤ maxLen
  · simpa [hs] using h.symm
  · simp [hs] at h

/-- Block m is a map in which just these keys stand, with these bytes. -/
def SMap (w : World) (m N : Nat) (K : List UInt8 → Prop) (g : List UInt8 → UInt8) : Prop :=
  ∃ D : DataW Unit, w.ownsMap Try.prog 32 (plainElem Try.prog 5) m N D ∧
    (∀ k, Maps.has D (.string k) = true ↔ K k) ∧ ∀ k, K k → D.atKey (.string k) (.lit (.int .u8 0)) = .lit (.int .u8 ((g k).toNat : Int))

theorem smap_made (w : World) (g : List UInt8 → UInt8) : SMap (w.alloc (.map #[] 0)) w.heap.size 0 (fun _ => False) g := ⟨_, World.ownsMap_made _ _ _ _, fun _ => ⟨fun h => (by cases h), fun h => h.elim⟩, fun _ h => h.elim⟩
theorem SMap.same {w w' : World} {m N : Nat} {K : List UInt8 → Prop} {g : List UInt8 → UInt8} (h : SMap w m N K g) (he : w'.heap[m]? = w.heap[m]?) : SMap w' m N K g := by
  obtain ⟨D, ⟨es, clock, hb, F, hs, hD⟩, h2⟩ := h
  exact ⟨D, ⟨es, clock, he.trans hb, F, hs, hD⟩, h2⟩
theorem SMap.lt {w : World} {m N : Nat} {K : List UInt8 → Prop} {g : List UInt8 → UInt8} (h : SMap w m N K g) : m < w.heap.size := by
  obtain ⟨D, h1, _⟩ := h
  exact h1.lt
theorem SMap.to {w : World} {m N : Nat} {K K' : List UInt8 → Prop} {g g' : List UInt8 → UInt8} (h : SMap w m N K g) (hK : ∀ k, K k ↔ K' k) (hg : ∀ k, K' k → g k = g' k) : SMap w m N K' g' := by
  obtain ⟨D, h1, h2, h3⟩ := h
  exact ⟨D, h1, fun k => (h2 k).trans (hK k), fun k hk => by rw [← hg k hk]; exact h3 k ((hK k).2 hk)⟩

set_option maxRecDepth 100000 in
theorem SMap.put {w : World} {m N : Nat} {K : List UInt8 → Prop} {g : List UInt8 → UInt8} (h : SMap w m N K g) (hN : N ≤ 1000000) (k : ByteArray) (hk : k.size ≤ 1000000000) (x : UInt8) :
    ∃ w', (Instr.mapUpdate 91 (.map (some m)) (.string k) (.int .u8 (x.toNat : Int))).run Try.prog w = .ok () w' ∧ SMap w' m (N + 1) (fun y => y = k.data.toList ∨ K y) (fun y => if y = k.data.toList then x else g y) ∧ w.grownBy w' (some m) := by
  obtain ⟨D, h1, h3, h4⟩ := h
  have hx := x.toNat_lt
  obtain ⟨w', k1, k2, k3⟩ := h1.update keyS Try.underlying91 (by unfold maxLen; omega) (key_str k hk) (plainElem_int Try.underlying5 (a := (x.toNat : Int)) (WalkArith.wf_u8 (by omega)))
  have hkl : WideAt.IsKeyLit (Lit.string k.data.toList) := trivial
  refine ⟨w', k1, ⟨_, k2, ?_, ?_⟩, k3⟩
  · intro y
    by_cases hy : y = k.data.toList
    · subst hy
      rw [Maps.has_put_same h1.isMap hkl]
      simp
    · rw [Maps.has_put_other (by intro e; injection e with e; exact hy e), h3]
      simp [hy]
  · intro y hy
    by_cases hyx : y = k.data.toList
    · subst hyx
      have := Maps.atKey_put_same h1.isMap hkl (DataW.lit (Lit.int .u8 (x.toNat : Int))) (DataW.lit (Lit.int .u8 0))
      simpa using this
    · rw [Maps.atKey_put_other (by intro e; injection e with e; exact hyx e)]
      simp only [if_neg hyx]
      refine h4 y ?_
      rcases hy with h | h
      · exact absurd h hyx
      · exact h

section
variable (w : World) {ops : Array Oper} {rest : List Oper} {o : Oper} {a : Act} {Q : Exit → Act → World → Prop}
theorem wpList_put_state (hg : o.guard = none) (mm x v : Operand) (hop : o.op = Op.mapUpdate 91 mm x v) (m N : Nat) (K : List UInt8 → Prop) (g : List UInt8 → UInt8) (k : ByteArray) (n : UInt8)
    (hm : a.eval mm = .map (some m)) (hx : a.eval x = .string k) (hv : a.eval v = .int .u8 (n.toNat : Int)) (h : SMap w m N K g) (hN : N ≤ 1000000) (hk : k.size ≤ 1000000000)
    (hK : ∀ w', SMap w' m (N + 1) (fun y => y = k.data.toList ∨ K y) (fun y => if y = k.data.toList then n else g y) → w.grownBy w' (some m) → wpList Try.prog ops Q rest (a.put o.dst undef) w') : wpList Try.prog ops Q (o :: rest) a w := by
  refine wpList_plain hg fun K' hK' => ?_
  obtain ⟨w', hrun, r1, r2⟩ := h.put hN k hk n
  unfold Oper.wp
  simp [execOp, hop, hm, hx, hv, hrun, Result.andThen]
  exact hK' _ _ (hK w' r1 r2)

theorem SMap.dropped {w : World} {m N : Nat} {K : List UInt8 → Prop} {g : List UInt8 → UInt8} {w' : World} {D : DataW Unit} (k : List UInt8) (h2 : ∀ k, Maps.has D (.string k) = true ↔ K k) (h3 : ∀ k, K k → D.atKey (.string k) (.lit (.int .u8 0)) = .lit (.int .u8 ((g k).toNat : Int)))
    (hown : w'.ownsMap Try.prog 32 (plainElem Try.prog 5) m N (D.del (.string k))) : SMap w' m N (fun y => y ≠ k ∧ K y) g := by
  refine ⟨_, hown, ?_, ?_⟩
  · intro y
    by_cases hy : y = k
    · subst hy
      rw [Maps.has_del_same]
      simp
    · rw [Maps.has_del_other (by intro e; injection e with e; exact hy e), h2]
      simp [hy]
  · rintro y ⟨hy, hK⟩
    rw [Maps.atKey_del_other (by intro e; injection e with e; exact hy e)]
    exact h3 y hK
theorem wpList_drop_state (hg : o.guard = none) (mm x : Operand) (hop : o.op = Op.call { callee := Callee.builtin Builtin.delete, args := #[mm, x], argTypes := #[91, 32] }) (m N : Nat) (K : List UInt8 → Prop) (g : List UInt8 → UInt8) (k : ByteArray)
    (hm : a.eval mm = .map (some m)) (hx : a.eval x = .string k) (h : SMap w m N K g) (hk : k.size ≤ 1000000000)
    (hK : ∀ w', SMap w' m N (fun y => y ≠ k.data.toList ∧ K y) g → w.mapTurned w' m → wpList Try.prog ops Q rest (a.put o.dst (.tuple #[])) w') : wpList Try.prog ops Q (o :: rest) a w := by
  obtain ⟨D, h1, h2, h3⟩ := h
  refine wpList_delete_own w hg mm x 91 32 hop 5 keyS Try.underlying91 (plainElem Try.prog 5) m N D hm h1 (.string k) _ hx (key_str k hk) fun w' r1 r2 => ?_
  exact hK w' (SMap.dropped (w := w) _ h2 h3 r1) r2
end

/-! ### The iterator over the map's bytes -/

/-- The keys met so far: none twice, each that is no longer to come. -/
def ColS (D0 : DataW Unit) (left : Lit → Bool) (ks : List (List UInt8)) : Prop := ks.Nodup ∧ ∀ x, x ∈ ks ↔ (Maps.has D0 (.string x) = true ∧ left (.string x) = false)

theorem ColS.start (D0 : DataW Unit) : ColS D0 (Maps.has D0) [] := ⟨List.nodup_nil, fun x => by cases Maps.has D0 (.string x) <;> simp⟩
theorem ColS.step {D0 : DataW Unit} {left : Lit → Bool} {ks : List (List UInt8)} (h : ColS D0 left ks) {x : List UInt8} {y : DataW Unit} (hlk : left (.string x) = true) (hat : ∀ zd, D0.atKey (.string x) zd = y) : ColS D0 (fun z => left z && !z.sameKey (.string x)) (ks ++ [x]) := by
  have hhas : Maps.has D0 (.string x) = true := Maps.has_true_of_atKey hat
  have hnew : x ∉ ks := fun hx => by have := ((h.2 x).1 hx).2; rw [hlk] at this; cases this
  refine ⟨List.nodup_append.2 ⟨h.1, by simp, fun a ha b hb => by simp at hb; subst hb; exact fun e => hnew (e ▸ ha)⟩, fun y => ?_⟩
  rw [List.mem_append, List.mem_singleton, h.2 y]
  by_cases hy : y = x
  · subst hy; simp [hhas, Lit.sameKey]
  · simp [hy, Lit.sameKey]

/-- The bytes of just these keys, each once, in some order. -/
def JustS (K : List UInt8 → Prop) (g : List UInt8 → UInt8) (ss : List UInt8) : Prop := ∃ ks : List (List UInt8), ks.Nodup ∧ (∀ x, x ∈ ks ↔ K x) ∧ ss = ks.map g
def OneS (K : List UInt8 → Prop) (g : List UInt8 → UInt8) : Prop := ∀ x y, K x → K y → g x = g y → x = y
theorem nodup_map8 {ks : List (List UInt8)} {K : List UInt8 → Prop} {g : List UInt8 → UInt8} (h1 : OneS K g) (hn : ks.Nodup) (hm : ∀ x ∈ ks, K x) : (ks.map g).Nodup := by
  rw [List.Nodup, List.pairwise_map]
  exact hn.imp_of_mem fun {a b} ha hb hne e => hne (h1 a b (hm a ha) (hm b hb) e)
theorem nodup_le : ∀ (N : Nat) (l : List Nat), l.Pairwise (· ≠ ·) → (∀ x ∈ l, x < N) → l.length ≤ N
  | 0, l, _, h => by
    cases l with
    | nil => exact Nat.le_refl _
    | cons a r => exact absurd (h a (by simp)) (Nat.not_lt_zero a)
  | N + 1, l, hp, h => by
    have h1 := nodup_le N (l.filter (· ≠ N)) (hp.filter _) (fun x hx => by
      obtain ⟨h2, h3⟩ := List.mem_filter.1 hx
      have := h x h2
      have h3 : x ≠ N := by simpa using h3
      omega)
    have h2 : l.length ≤ (l.filter (· ≠ N)).length + 1 := by
      clear h1 h
      induction l with
      | nil => simp
      | cons a r ih =>
        obtain ⟨ha, hr⟩ := List.pairwise_cons.1 hp
        by_cases e : a = N
        · have : r.filter (· ≠ N) = r := List.filter_eq_self.2 fun x hx => by have := ha x hx; subst e; simpa using fun e => this e.symm
          subst e
          rw [List.filter_cons_of_neg (by simp), this]
          simp
        · have := ih hr
          simp [e] at this ⊢
          omega
    omega
theorem few8 {ss : List UInt8} (h : ss.Nodup) : ss.length ≤ 256 := by
  have := nodup_le 256 (ss.map UInt8.toNat) (List.pairwise_map.2 (h.imp fun h e => h (UInt8.toNat_inj.1 e))) (fun x hx => by
    obtain ⟨y, _, rfl⟩ := List.mem_map.1 hx
    exact y.toNat_lt)
  rwa [List.length_map] at this

def SMapT (K : List UInt8 → Prop) (g : List UInt8 → UInt8) (m : Nat) (W : World) : Prop := ∃ N, SMap W m N K g

set_option maxRecDepth 100000 in
set_option maxHeartbeats 2000000 in
theorem vals_stops (n : Nat) (hn : 1 ≤ n) (Bm m N : Nat) (K : List UInt8 → Prop) (g : List UInt8 → UInt8) (h1 : OneS K g) (w : World) (hBm : Bm < w.heap.size) (hm : w.cell? ⟨Bm, 0, none⟩ = some (.map (some m))) (h : SMap w m N K g) :
    SeqStopsK Fence.wide n Try.prog 77 #[.pointer (some ⟨Bm, 0, none⟩)] (fun x => #[enc8 x]) KeepsWalks (JustS K g) (fun _ => True) 257 w := by
  intro l J Jx W hW hJ hJx hY h0
  obtain ⟨D0, hown, h2, h3⟩ := h.same (hW.block m h.lt)
  have hmW : W.cell? ⟨Bm, 0, none⟩ = some (.map (some m)) := (hW.cell (p := ⟨Bm, 0, none⟩) hBm).trans hm
  have hF : Fence.wide.fn 77 := trivial
  refine callsIn_of_wp Try.func77 rfl hF ?_ rfl
  simp only [Try.ntmps77, List.size_toArray, List.length_cons, List.length_nil, Nat.reduceAdd, Nat.reduceSub, Array.replicate_succ, Array.replicate_zero, List.push_toArray, List.append_toArray, List.nil_append, List.cons_append]
  have H2 := Lib.hid (And.intro h2 (And.intro h3 (And.intro hown (And.intro hJx h1))))
  have HJ := Lib.hid hJ
  have HY := Lib.hid hY
  have H0 := Lib.hid h0
  clear h h2 h3 hJ hJx hY h0 h1
  gi_wp2_with (first
    | (gi_at_range; refine wpListIn_range_own _ rfl _ 91 rfl 32 5 keyS Try.underlying91 _ m _ _ rfl hown ?_; intro w0 hrg0 hg0 hs0)
    | gi_in)
  gi_loopw [4] (fun _ wr => ∃ (left : Lit → Bool) (cnt : Nat) (ks : List (List UInt8)), wr.ranges Try.prog 32 (plainElem Try.prog 5) m W.heap.size N D0 left cnt ∧ ColS D0 left ks ∧ J (ks.map g) wr)
    (fun _ wr => wr.rangeLeft m W.heap.size)
  case atStart => exact ⟨_, _, [], hrg0, ColS.start D0, HJ.out [] W w0 none H0.out hg0 (fun r e => by cases e)⟩
  case round =>
    obtain ⟨left, cnt, ks, hrg, hC, hJs⟩ := hrel
    have hmem : ∀ x ∈ ks, K x := fun x hx => (H2.out.1 x).1 ((hC.2 x).1 hx).1
    gi_wp2_with (first
      | (gi_at_next; refine wpListIn_next_ranges _ rfl _ rfl 32 keyS (plainElem Try.prog 5) Value.string (Value.int .u8) (fun key kl hk => by obtain ⟨x, hx, _⟩ := key_str_inv hk; exact ⟨x, hx⟩) (fun v y hv => by obtain ⟨c, rfl, _⟩ := plainElem_int_inv Try.underlying5 hv; exact ⟨c, rfl⟩) m W.heap.size N _ _ _ rfl hrg ?_ ?_)
      | gi_in)
    · intro hc0 hl0
      gi_wp2
      go_end0
      refine ⟨⟨_, rfl⟩, .inl ⟨ks.map g, ⟨ks, hC.1, fun x => ?_, rfl⟩, hJs⟩⟩
      rw [hC.2 x, H2.out.1 x, hl0]
      simp
    · intro x c kl yd yp w2 cnt2 hkey hlk hv hat hrg2 hlt hg2 hs2 hen
      obtain ⟨x', ex, rfl⟩ := key_str_inv hkey
      obtain rfl : x = x' := by injection ex
      obtain ⟨c', ec, ey, -⟩ := plainElem_int_inv Try.underlying5 hv
      obtain rfl : c = c' := by injection ec
      injection ey with ey1 ey2
      subst ey1 ey2
      have hhas : Maps.has D0 (.string x.data.toList) = true := Maps.has_true_of_atKey hat
      have hKx := (H2.out.1 _).1 hhas
      have hcg : c = ((g x.data.toList).toNat : Int) := by
        have e := (hat (.lit (.int .u8 0))).symm.trans (H2.out.2.1 _ hKx)
        injection e with e
        injection e
      subst hcg
      have hJ2 : J (ks.map g) w2 := HJ.out _ wr w2 (some W.heap.size) hJs hg2 (fun r e => by cases e; exact ⟨Nat.le_refl _, hrg.iter_walk⟩)
      have hfew := few8 (nodup_map8 H2.out.2.2.2.2 hC.1 hmem)
      obtain ⟨fn, tmps, assign, body, hy, hR⟩ := HY.out (ks.map g) (g x.data.toList) w2 hJ2 (by omega)
      clear hs2
      gi_wp2
      refine hR.mono ?_
      rintro e W3 (⟨rfl, hJ3, hk3⟩ | ⟨rfl, hJ3⟩)
      · gi_wp2
        have hrg3 := hrg2.of_walks hk3
        go_roundw
        case rel => exact ⟨_, cnt2, ks ++ [x.data.toList], hrg3, hC.step hlk hat, by rw [List.map_append]; exact hJ3⟩
        case measure => rw [hrg3.left_eq, hrg.left_eq]; exact hlt
      · gi_wp2
        exact bodyPost_ret (v := .tuple #[]) (by simp [results, Try.results77, go_sem]) rfl ⟨⟨_, rfl⟩, .inr ⟨_, trivial, hJ3⟩⟩
end Go.Proofs.Ythgdanbkngnckaa
namespace Go.Proofs.Ythgdanbkngnckaa
open Go.RowKit Go.Shelf Go.Sort

attribute [local go_sem] Oper.semAt_some

/-- The iterator over a map's bytes: these come, in some order. -/
def ValsAt (Bm : Nat) (K : List UInt8 → Prop) (g : List UInt8 → UInt8) (w : World) : Prop :=
  ∀ n, 1 ≤ n → SeqStopsK Fence.wide n Try.prog 77 #[.pointer (some ⟨Bm, 0, none⟩)] (fun x => #[enc8 x]) KeepsWalks (JustS K g) (fun _ => True) 257 w

theorem ValsAt.below {Bm : Nat} {K : List UInt8 → Prop} {g : List UInt8 → UInt8} {w w' : World} (h : ValsAt Bm K g w) (hb : Below w.heap.size w w') : ValsAt Bm K g w' := fun n hn l J Jx W hW hJ hJx hY h0 => h n hn l J Jx W (hb.trans (hW.mono hb.size)) hJ hJx hY h0

theorem putObj_owns {W : World} {base n : Nat} {e : TypeId} {size : Nat} {v : Value} {xs : List Value} {D : Nat} {o : Obj} (h : W.ownsRow base e size v n xs) (o' : Obj) (hD : W.heap[D]? = some o) (ho : o.isCells = false) : (W.putObj D o').ownsRow base e size v n xs := by
  refine h.kept (grownBy_putObj' W D o') ?_
  rcases h.2 with ⟨rfl, _⟩ | ⟨g, cap, cur, rfl, _, hg, _⟩
  · exact .inl rfl
  · refine .inr fun e => ?_
    simp [Value.ownBlock] at e
    subst e
    rw [hg] at hD
    cases hD
    cases ho

set_option maxRecDepth 100000 in
set_option maxHeartbeats 2000000 in
theorem appendSeq_keys (n : Nat) (hn : 4 ≤ n) (Bm : Nat) (K : List UInt8 → Prop) (g : List UInt8 → UInt8) (w : World) (h : ValsAt Bm K g w) :
    CallsIn Fence.wide n Try.prog 85 #[.slice none 0 0, .func (.func 77) #[] #[.pointer (some ⟨Bm, 0, none⟩)]] w fun e w' =>
      ∃ v ss, e = .returned v ∧ JustS K g ss ∧ w'.ownsRow w.heap.size 5 1 v ss.length (ss.map enc8) ∧ Below w.heap.size w w' := by
  have h1 : 1 ≤ n := by omega
  have hF : Fence.wide.fn 85 := trivial
  have hF2 : Fence.wide.fn 77 := trivial
  obtain ⟨i0, hi, hz1, hz2, hz3⟩ := info_parts i5
  obtain ⟨w0, hw0⟩ : ∃ w0, w.alloc (.cells #[.slice none 0 0] 38) = w0 := ⟨_, rfl⟩
  have hb0 : Below w.heap.size w w0 := by rw [← hw0]; exact (Below.refl _ w).alloc (Nat.le_refl _) _
  have hz0 : w0.heap.size = w.heap.size + 1 := by rw [← hw0]; simp
  have bO : Boxed w0 w.heap.size 38 (.slice none 0 0) := by rw [← hw0]; exact Boxed.new w 38 _
  have hK := h.below hb0 (n - 1) (by omega)
  refine callsIn_of_wp_marks Try.func85 rfl hF ?_ rfl
  simp only [Try.ntmps85, List.size_toArray, List.length_cons, List.length_nil, Nat.reduceAdd, Nat.reduceSub, Array.replicate_succ, Array.replicate_zero, List.push_toArray, List.append_toArray, List.nil_append, List.cons_append]
  gi_wp2
  try rw [hw0]
  refine wpIn_rangeFunc_ownG rfl h1 (gf := 77) (lb := #[.pointer (some ⟨Bm, 0, none⟩)]) rfl hF2 (enters_of Try.func77 (by kernel_rfl) rfl)
    hK walksK_t walksK_b (Below.refl _ _) (fun _ => rfl)
    (fun pre W => (∃ v, Boxed W w.heap.size 38 v ∧ W.ownsRow w.heap.size 5 1 v pre.length (pre.map enc8) ∧ True) ∧ Below w.heap.size w W)
    (fun _ _ _ => False)
    (OwnFrom.and (Own.from (holdsRow_own w.heap.size w.heap.size 38 5 1 (fun pre : List UInt8 => pre.length) (fun pre : List UInt8 => pre.map enc8) (fun _ _ => True)) _) (ownFrom_below (Nat.le_refl _) (by omega)))
    (fun _ _ _ _ _ hs _ _ => hs)
    ⟨⟨_, bO, World.ownsRow_nil _ _ _ _, trivial⟩, hb0⟩
    (fun x => { tmps := #[.slice none 0 0, .func (.func 77) #[] #[.pointer (some ⟨Bm, 0, none⟩)], .pointer (some ⟨w.heap.size, 0, none⟩), undef, .slice none 0 0, enc8 x, .func (.func 77) #[] #[.pointer (some ⟨Bm, 0, none⟩)], enc8 x, undef, undef, undef, undef, undef], defers := [] }) ?assign ?body ?done ?stop
  case assign =>
    intro l x W K hK
    gi_wp2
    exact hK
  case body =>
    rintro l pre x W ⟨⟨v, hv, hrow, -⟩, hB⟩ hlt
    have hc := hv.cell
    gi_wp2_with (gi_at_builtin; refine wpListIn_append_own_at _ rfl _ _ 38 rfl w.heap.size 5 i0 (.int .u8 0) 1 1 Try.underlying38 hi hz1 hz2 hz3 rfl (by decide) _ _ _ rfl (hrow.alloc _) ⟨W.heap.size, 0, none⟩ 1 1 [enc8 x] rfl rfl (cell_one_new _ _ _) (by simp [Value.oneCell']) (by unfold maxLen; omega) (by omega) (by have := hB.size; simp; omega) ?_; intro v' w2 hown' hgrow _ hloc; obtain ⟨g', cap', rfl⟩ := ownsRow_succ hown'; obtain ⟨hv1, hv2, hr2, hk2, hb2⟩ := hv.appended (by decide) hrow hB.size (Nat.le_refl _) hown' hgrow; have hc1 := hv1.cell; have hf1 := hv1.frozen)
    exact ⟨hk2.from _, hk2.walks, ⟨_, hv2, by simpa using hr2, trivial⟩, hB.trans hb2⟩
  case done =>
    rintro D ys W hD hS ⟨⟨v, hv, hrow, -⟩, hB⟩ hK
    have hc := hv.cell
    gi_wp2
    refine ⟨by simp, .inl ⟨_, _, rfl, run_takeDeferred hK, ?_⟩⟩
    exact ⟨_, results_tmp rfl _ _ _, v, ys, rfl, hS, putObj_owns hrow _ hK rfl, hB.trans (belowK_b (w := w) (Nat.le_refl _) W D _ _ (by omega) hK rfl rfl)⟩
  case stop =>
    rintro D c pre W _ _ h _
    exact h.elim

set_option maxHeartbeats 1000000 in
theorem collect_keys (Bm : Nat) (K : List UInt8 → Prop) (g : List UInt8 → UInt8) (w : World) (h : ValsAt Bm K g w) :
    Calls Try.prog 75 #[.func (.func 77) #[] #[.pointer (some ⟨Bm, 0, none⟩)]] w fun e w' =>
      ∃ v ss, e = .returned v ∧ JustS K g ss ∧ w'.ownsRow w.heap.size 5 1 v ss.length (ss.map enc8) ∧ Below w.heap.size w w' := by
  have q := (callsIn_wide (n := 4)).1 (appendSeq_keys 4 (by omega) Bm K g w h)
  clear h
  go_enter Try.func75, Try.ntmps75
  go_wp2_with (go_at_call 85; (with_reducible refine q.mono ?_); rintro e w1 ⟨v, ss, rfl, hJ, hrow, hb⟩; have H := Lib.hid (And.intro hJ (And.intro hrow hb)); clear hJ hrow hb)
  go_ret
  exact ⟨v, ss, rfl, H.out.1, H.out.2.1, H.out.2.2⟩


set_option maxHeartbeats 1000000 in
theorem ins_nil (W : World) : Calls Try.prog 90 #[.slice none 0 0, .int .i64 0, .int .i64 0] W fun e w' => e = .returned (.tuple #[]) ∧ W = w' := by
  go_enter Try.func90, Try.ntmps90
  go_wp2
  go_loopw [6] (fun v wr => v = .int .i64 1 ∧ wr = W) (fun _ _ => 0)
  case atStart => exact ⟨rfl, rfl⟩
  case round =>
    obtain ⟨rfl, rfl⟩ := hrel
    go_wp2
    go_end0
    exact ⟨rfl, rfl⟩

set_option maxHeartbeats 1000000 in
theorem pdq_nil (k : Int) (W : World) : Calls Try.prog 86 #[.slice none 0 0, .int .i64 0, .int .i64 0, .int .i64 k] W fun e w' => e = .returned (.tuple #[]) ∧ W = w' := by
  have q := ins_nil W
  go_enter Try.func86, Try.ntmps86
  go_wp2
  go_loopw [1, 2, 3, 8, 9] (fun v1 v2 v3 v8 v9 wr => v1 = .int .i64 0 ∧ v2 = .int .i64 0 ∧ v3 = .int .i64 k ∧ v8 = .bool true ∧ v9 = .bool true ∧ wr = W) (fun _ _ _ _ _ _ => 0)
  case atStart => exact ⟨rfl, rfl, rfl, rfl, rfl, rfl⟩
  case round =>
    obtain ⟨rfl, rfl, rfl, rfl, rfl, rfl⟩ := hrel
    go_wp2_with (go_at_call 90; (with_reducible refine q.mono ?_); rintro e w1 ⟨rfl, rfl⟩)
    exact bodyPost_ret (v := .tuple #[]) (by simp [results, Try.results86, go_sem]) rfl ⟨rfl, rfl⟩

theorem list_toArray_at (l : List UInt8) (j : Nat) (h : j < l.length) : l.toArray[j]! = l[j] := by simp [h]

theorem s8_of_owns {W : World} {base g cap : Nat} {cur : Array Value} {ss : List UInt8} (hg : W.heap[g]? = some (.cells cur 5 (0, 0))) (ht : cur.toList.take (ss.length * 1) = ss.map enc8) : S8 W g ss.toArray W := by
  refine ⟨fun j hj => ?_, fun j hj => ?_, ⟨rfl, rfl, rfl, Nat.le_refl _, fun _ _ _ => rfl⟩, (Array.getElem?_eq_some_iff.1 hg).1, fun cs T fz h => ⟨cs, h, rfl⟩⟩
  · have hj' : j < ss.length := by simpa using hj
    have hx : (ss.map enc8)[j]? = some (enc8 ss[j]) := by simp [hj']
    rw [← ht, List.getElem?_take, if_pos (by omega), Array.getElem?_toList] at hx
    rw [list_toArray_at ss j hj']
    simp [World.cell?, hg, hx]
  · simp [World.frozen?, hg]

set_option maxHeartbeats 1000000 in
theorem sort8 (W : World) (base : Nat) (v : Value) (ss : List UInt8) (h : W.ownsRow base 5 1 v ss.length (ss.map enc8)) (hn : ss.length < 1000) :
    Calls Try.prog 76 #[v] W fun e w' => ∃ ss' : List UInt8, e = .returned (.tuple #[]) ∧ ss'.Perm ss ∧ ss'.Pairwise (fun a b => a.toNat ≤ b.toNat) ∧ w'.ownsRow base 5 1 v ss'.length (ss'.map enc8) ∧ W.grownBy w' v.ownBlock := by
  rcases h.2 with ⟨rfl, h0⟩ | ⟨g, cap, cur, rfl, hb, hg, h1, h2, h3, ht⟩
  · have hss : ss = [] := List.eq_nil_of_length_eq_zero h0
    have qL : ∀ W, Calls Try.prog 87 #[.int .u64 0] W fun e w' => e = .returned (.int .i64 0) ∧ w' = W := fun W => Try.bits_Len 0 W (by omega) (by omega)
    have qP := pdq_nil 0 W
    subst hss
    have H := Lib.hid h
    clear h h0
    go_enter Try.func76, Try.ntmps76
    go_wp2_with (first
      | (go_at_call 87; (with_reducible refine (qL _).mono ?_); rintro e w1 ⟨rfl, rfl⟩)
      | (go_at_call 86; (with_reducible refine qP.mono ?_); rintro e w1 ⟨rfl, rfl⟩))
    go_end0
    exact ⟨[], rfl, List.Perm.refl _, List.Pairwise.nil, H.out, ⟨rfl, rfl, rfl, Nat.le_refl _, fun _ _ _ => rfl⟩⟩
  · obtain ⟨n, hnn⟩ : ∃ n, n = ss.length := ⟨_, rfl⟩
    have hbl := (bitsLen_le_iff n 62).2 (by omega)
    have qL : ∀ W, Calls Try.prog 87 #[.int .u64 (n : Int)] W fun e w' => e = .returned (.int .i64 (bitsLen n : Nat)) ∧ w' = W := fun W => by
      have h := Try.bits_Len (n : Int) W (by omega) (by omega)
      rwa [Int.toNat_natCast, bitLen_eq _ (by omega)] at h
    obtain ⟨bl, hbl2⟩ : ∃ bl, bl = bitsLen n := ⟨_, rfl⟩
    rw [← hbl2] at qL hbl
    have S := s8_of_owns (base := base) (cap := cap) hg ht
    have qP := pdq8 g n cap W (by omega) n 0 n bl ss.toArray W (by omega) (by simp [hnn]) S (Nat.zero_le _) (Nat.le_refl _) (by omega) (by omega) (Or.inl rfl)
    rw [cast0] at qP
    have HX := Lib.hid (And.intro hg (And.intro hb (And.intro h1 (And.intro h2 (And.intro h3 hnn)))))
    have hn2 : n < 1000 := by omega
    rw [← hnn]
    clear hg ht h h1 h2 h3 S hb hbl2 hnn hn
    go_enter Try.func76, Try.ntmps76
    go_wp2_with (first
      | (go_at_call 87; (with_reducible refine (qL _).mono ?_); rintro e w1 ⟨rfl, rfl⟩)
      | (go_at_call 86; (with_reducible refine qP.mono ?_); rintro e w1 ⟨d', rfl, hP, hO, hS⟩; have H := Lib.hid (And.intro hP (And.intro hO hS)); clear hP hO hS))
    go_end0
    obtain ⟨hP, hO, hS⟩ := H.out
    obtain ⟨hg, hb, h1, h2, h3, hnn⟩ := HX.out
    have hsz : d'.size = n := by rw [hP.1]; simp [hnn]
    refine ⟨d'.toList, rfl, ?_, ?_, ⟨by simp, .inr ⟨g, cap, ?_⟩⟩, hS.grown⟩
    · have hp := hP.2.2
      have e1 : d'.extract 0 n = d' := by rw [← hsz]; simp
      have e2 : ss.toArray.extract 0 n = ss.toArray := by rw [hnn]; simp
      rw [e1, e2] at hp
      simpa using hp
    · rw [List.pairwise_iff_getElem]
      intro i j hi hj hij
      have hi' : i < d'.size := by simpa using hi
      have hj' : j < d'.size := by simpa using hj
      have := hO i j (Nat.zero_le _) hij (by omega)
      unfold lt8 at this
      have := of_decide_eq_false this
      rw [getElem!_pos d' i hi', getElem!_pos d' j hj'] at this
      simp only [Array.getElem_toList]
      omega
    · obtain ⟨cs', k1, k2⟩ := hS.typed _ _ _ hg
      refine ⟨cs', by rw [Array.length_toList, hsz], hb, k1, by rw [Array.length_toList, hsz, hnn]; exact h1, h2, by rw [k2]; exact h3, ?_⟩
      apply List.ext_getElem?
      intro j
      rw [Array.length_toList, hsz, Nat.mul_one, List.getElem?_take, List.getElem?_map, Array.getElem?_toList, Array.getElem?_toList]
      by_cases hj : j < n
      · rw [if_pos hj]
        have hc := hS.cells j (by omega)
        have hj' : j < d'.size := by omega
        simp [World.cell?, k1] at hc
        rw [hc, Array.getElem?_eq_getElem hj']
        simp [hj']
      · rw [if_neg hj, Array.getElem?_eq_none (by omega)]
        rfl

theorem JustS.nodup {K : List UInt8 → Prop} {g : List UInt8 → UInt8} {ss : List UInt8} (h1 : OneS K g) (h : JustS K g ss) : ss.Nodup := by
  obtain ⟨ks, hn, hm, rfl⟩ := h
  exact nodup_map8 h1 hn fun x hx => (hm x).1 hx
theorem JustS.mem {K : List UInt8 → Prop} {g : List UInt8 → UInt8} {ss : List UInt8} (h : JustS K g ss) (x : UInt8) : x ∈ ss ↔ ∃ y, K y ∧ g y = x := by
  obtain ⟨ks, hn, hm, rfl⟩ := h
  rw [List.mem_map]
  exact ⟨fun ⟨y, h1, h2⟩ => ⟨y, (hm y).1 h1, h2⟩, fun ⟨y, h1, h2⟩ => ⟨y, (hm y).2 h1, h2⟩⟩

/-- Lists that rise, of the same bytes, are one. -/
theorem sorted_is {K : List UInt8 → Prop} {g : List UInt8 → UInt8} {ss ss' L : List UInt8} (hJ : JustS K g ss) (hp : ss'.Perm ss) (hs : ss'.Pairwise (fun a b => a.toNat ≤ b.toNat)) (hL : L.Pairwise (fun a b => a.toNat < b.toNat)) (hm : ∀ x, x ∈ L ↔ ∃ y, K y ∧ g y = x) (h1 : OneS K g) : ss' = L := by
  have hn : L.Nodup := hL.imp fun h e => by subst e; omega
  have hpl : ss.Perm L := (List.perm_ext_iff_of_nodup (hJ.nodup h1) hn).2 fun x => by rw [hJ.mem x, hm x]
  exact List.Perm.eq_of_pairwise (le := fun a b => a.toNat ≤ b.toNat) (fun a b _ _ h1 h2 => UInt8.toNat_inj.1 (by omega)) hs (hL.imp fun h => by omega) (hp.trans hpl)

set_option maxHeartbeats 1000000 in
theorem sorted_keys (Bm : Nat) (K : List UInt8 → Prop) (g : List UInt8 → UInt8) (L : List UInt8) (w : World) (h : ValsAt Bm K g w) (hL : L.Pairwise (fun a b => a.toNat < b.toNat)) (hmem : ∀ x, x ∈ L ↔ ∃ y, K y ∧ g y = x) (h1 : OneS K g) (hl : L.length < 300) :
    Calls Try.prog 63 #[.func (.func 77) #[] #[.pointer (some ⟨Bm, 0, none⟩)]] w fun e w' =>
      ∃ v, e = .returned v ∧ w'.ownsRow w.heap.size 5 1 v L.length (L.map enc8) ∧ Below w.heap.size w w' := by
  have q := collect_keys Bm K g w h
  have H0 := Lib.hid (And.intro hL (And.intro hmem h1))
  clear h hL hmem h1
  have HS := Lib.hid (fun (W : World) (v : Value) (ss : List UInt8) h1 h2 => sort8 W w.heap.size v ss h1 h2)
  have hlen : ∀ ss, JustS K g ss → ss.length < 1000 := fun ss hJ => by
    have hn : L.Nodup := H0.out.1.imp fun h e => by subst e; omega
    have := ((List.perm_ext_iff_of_nodup (hJ.nodup H0.out.2.2) hn).2 fun x => by rw [hJ.mem x, H0.out.2.1 x]).length_eq
    omega
  have HL := Lib.hid hlen
  clear hlen
  go_enter Try.func63, Try.ntmps63
  go_wp2_with (first
    | (go_at_call 75; (with_reducible refine q.mono ?_); rintro e w1 ⟨v, ss, rfl, hJ, hrow, hb⟩; have q2 := HS.out w1 v ss hrow (HL.out ss hJ); have H := Lib.hid (And.intro hJ (And.intro hb hrow)); clear hJ hrow hb q)
    | (go_at_call 76; (with_reducible refine q2.mono ?_); rintro e w2 ⟨ss', rfl, hp, hs, hrow, hg⟩; have H2 := Lib.hid (And.intro hp (And.intro hs (And.intro hrow hg))); clear hp hs hrow hg q2))
  go_ret
  obtain ⟨hJ, hb, hrow0⟩ := H.out
  obtain ⟨hp, hs, hrow, hg⟩ := H2.out
  have e := sorted_is hJ hp hs H0.out.1 H0.out.2.1 H0.out.2.2
  subst e
  exact ⟨v, rfl, hrow, hb.grown hg hb.size (fun k hk => (hrow0.lt k hk).1)⟩
end Go.Proofs.Ythgdanbkngnckaa

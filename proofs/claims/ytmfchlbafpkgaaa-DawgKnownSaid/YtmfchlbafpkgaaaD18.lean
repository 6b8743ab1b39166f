/-
  A map's keys that are bytes: the library's iterator over them, and all of them in a row. A map's keys that are bytes, in a row that rises. A map's keys that are bytes, in a row that rises: sorted.
-/
import Derived.Test.YtmfchlbafpkgaaaD07
import Derived.Test.YtmfchlbafpkgaaaD17
import Derived.Maps.OwnIn
import Derived.Sort.MapsRangeIn
import Derived.RangeFuncNested
import Derived.RangeFuncBound
import Derived.RangeFuncCalls
import Derived.RangeFuncLeaves
import Derived.RangeFuncBox
import Derived.Shelf.Abstract
import Derived.Shelf.RegionOpen
import Derived.OwnWalkIn
import Derived.TacticsInMore
import Derived.RegionIn
import Derived.LoopNIn
import Derived.LoopIn
import Derived.Test.YtmfchlbafpkgaaaD14
import Derived.Sort.WalkA14
set_option linter.unusedVariables false
set_option linter.unusedSimpArgs false
namespace Go.Proofs.Ytmfchlbafpkgaaa
open Go.RowKit Go.Shelf

attribute [local go_sem] Oper.semAt_some

/-- The keys met so far: none twice, each that is no longer to come. -/
def ColB (D0 : DataW Unit) (left : Lit → Bool) (ss : List UInt8) : Prop := ss.Nodup ∧ ∀ x, x ∈ ss ↔ (Maps.has D0 (litB x) = true ∧ left (litB x) = false)

theorem ColB.start (D0 : DataW Unit) : ColB D0 (Maps.has D0) [] := ⟨List.nodup_nil, fun x => by cases Maps.has D0 (litB x) <;> simp⟩
theorem ColB.step {D0 : DataW Unit} {left : Lit → Bool} {ss : List UInt8} (h : ColB D0 left ss) {x : UInt8} {y : DataW Unit} (hlk : left (litB x) = true) (hat : ∀ zd, D0.atKey (litB x) zd = y) : ColB D0 (fun z => left z && !z.sameKey (litB x)) (ss ++ [x]) := by
  have hhas : Maps.has D0 (litB x) = true := Maps.has_true_of_atKey hat
  have hnew : x ∉ ss := fun hx => by have := ((h.2 x).1 hx).2; rw [hlk] at this; cases this
  refine ⟨List.nodup_append.2 ⟨h.1, by simp, fun a ha b hb => by simp at hb; subst hb; exact fun e => hnew (e ▸ ha)⟩, fun y => ?_⟩
  rw [List.mem_append, List.mem_singleton, h.2 y]
  by_cases hy : y = x
  · subst hy; simp [hhas, Lit.sameKey]
  · have hne : (Lit.sameKey (litB y) (litB x)) = false := by
      have : (y.toNat : Int) ≠ (x.toNat : Int) := fun e => hy (UInt8.toNat_inj.1 (by omega))
      simp [Lit.sameKey, this]
    simp [hy, hne]
theorem ColB.few {D0 : DataW Unit} {left : Lit → Bool} {ss : List UInt8} (h : ColB D0 left ss) : ss.length ≤ 256 := by
  have := nodup_le 256 (ss.map UInt8.toNat) (List.pairwise_map.2 (h.1.imp fun h e => h (UInt8.toNat_inj.1 e))) (fun x hx => by
    obtain ⟨y, _, rfl⟩ := List.mem_map.1 hx
    exact y.toNat_lt)
  rwa [List.length_map] at this

/-- Just the bytes that the map has, each once. -/
def JustB (P : UInt8 → Option Nat) (ss : List UInt8) : Prop := ss.Nodup ∧ ∀ x, x ∈ ss ↔ (P x).isSome = true

set_option maxRecDepth 100000 in
set_option maxHeartbeats 2000000 in
theorem keys_stops (n : Nat) (hn : 1 ≤ n) (Bm m : Nat) (P : UInt8 → Option Nat) (w : World) (hBm : Bm < w.heap.size) (hm : w.cell? ⟨Bm, 0, none⟩ = some (.map (some m))) (h : HasN w m P) :
    SeqStopsK Fence.wide n Try.prog 111 #[.pointer (some ⟨Bm, 0, none⟩)] (fun x => #[enc8 x]) KeepsWalks (JustB P) (fun _ => True) 257 w := by
  intro l J Jx W hW hJ hJx hY h0
  obtain ⟨D0, hown, h2, h3⟩ := h.same (hW.block m h.lt)
  have hmW : W.cell? ⟨Bm, 0, none⟩ = some (.map (some m)) := (hW.cell (p := ⟨Bm, 0, none⟩) hBm).trans hm
  have hF : Fence.wide.fn 111 := trivial
  refine callsIn_of_wp Try.func111 rfl hF ?_ rfl
  simp only [Try.ntmps111, List.size_toArray, List.length_cons, List.length_nil, Nat.reduceAdd, Nat.reduceSub, Array.replicate_succ, Array.replicate_zero, List.push_toArray, List.append_toArray, List.nil_append, List.cons_append]
  have H2 := Lib.hid (And.intro h2 (And.intro hown hJx))
  have HJ := Lib.hid hJ
  have HJx := Lib.hid hJx
  have HY := Lib.hid hY
  have H0 := Lib.hid h0
  clear h h2 h3 hJ hJx hY h0
  gi_wp2_with (first
    | (gi_at_range; refine wpListIn_range_own _ rfl _ 107 rfl 5 47 keyB Try.underlying107 _ m _ _ rfl hown ?_; intro w0 hrg0 hg0 hs0)
    | gi_in)
  gi_loopw [3] (fun _ wr => ∃ (left : Lit → Bool) (cnt : Nat) (ss : List UInt8), wr.ranges Try.prog 5 ptrElem m W.heap.size (Maps.size D0) D0 left cnt ∧ ColB D0 left ss ∧ J ss wr)
    (fun _ wr => wr.rangeLeft m W.heap.size)
  case atStart => exact ⟨_, _, [], hrg0, ColB.start D0, HJ.out [] W w0 none H0.out hg0 (fun r e => by cases e)⟩
  case round =>
    obtain ⟨left, cnt, ss, hrg, hC, hJs⟩ := hrel
    gi_wp2_with (first
      | (gi_at_next; refine wpListIn_next_ranges _ rfl _ rfl 5 keyB ptrElem enc8 id (fun key kl hk => by obtain ⟨x, hx, _⟩ := key_inv hk; exact ⟨x, hx⟩) (fun v _ _ => ⟨v, rfl⟩) m W.heap.size (Maps.size D0) _ _ _ rfl hrg ?_ ?_)
      | gi_in)
    · intro hc0 hl0
      gi_wp2
      go_end0
      refine ⟨⟨_, rfl⟩, .inl ⟨ss, ⟨hC.1, fun x => ?_⟩, hJs⟩⟩
      rw [hC.2 x, H2.out.1 x, hl0]
      simp
    · intro x c kl yd yp w2 cnt2 hkey hlk hv hat hrg2 hlt hg2 hs2 hen
      obtain ⟨x', ex, rfl⟩ := key_inv hkey
      obtain rfl : x = x' := UInt8.toNat_inj.1 (by injection ex with _ ex; omega)
      have hJ2 : J ss w2 := HJ.out ss wr w2 (some W.heap.size) hJs hg2 (fun r e => by cases e; exact ⟨Nat.le_refl _, hrg.iter_walk⟩)
      have hfew := hC.few
      obtain ⟨fn, tmps, assign, body, hy, hR⟩ := HY.out ss x w2 hJ2 (by omega)
      clear hs2
      gi_wp2
      refine hR.mono ?_
      rintro e W3 (⟨rfl, hJ3, hk3⟩ | ⟨rfl, hJ3⟩)
      · gi_wp2
        have hrg3 := hrg2.of_walks hk3
        go_roundw
        case rel => exact ⟨_, cnt2, ss ++ [x], hrg3, hC.step hlk hat, hJ3⟩
        case measure => rw [hrg3.left_eq, hrg.left_eq]; exact hlt
      · gi_wp2
        exact bodyPost_ret (v := .tuple #[]) (by simp [results, Try.results111, go_sem]) rfl ⟨⟨_, rfl⟩, .inr ⟨_, trivial, hJ3⟩⟩

/-- The iterator over a map's bytes: these come, in some order. -/
def KeysAt (Bm : Nat) (P : UInt8 → Option Nat) (w : World) : Prop :=
  ∀ n, 1 ≤ n → SeqStopsK Fence.wide n Try.prog 111 #[.pointer (some ⟨Bm, 0, none⟩)] (fun x => #[enc8 x]) KeepsWalks (JustB P) (fun _ => True) 257 w

theorem KeysAt.below {Bm : Nat} {P : UInt8 → Option Nat} {w w' : World} (h : KeysAt Bm P w) (hb : Below w.heap.size w w') : KeysAt Bm P w' := fun n hn l J Jx W hW hJ hJx hY h0 => h n hn l J Jx W (hb.trans (hW.mono hb.size)) hJ hJx hY h0

set_option maxRecDepth 100000 in
set_option maxHeartbeats 2000000 in
theorem keys_nil (Bm : Nat) (w : World) (hBm : Bm < w.heap.size) (hm : w.cell? ⟨Bm, 0, none⟩ = some (.map none)) : KeysAt Bm (fun _ => none) w := by
  intro n hn l J Jx W hW hJ hJx hY h0
  have hmW : W.cell? ⟨Bm, 0, none⟩ = some (.map none) := (hW.cell (p := ⟨Bm, 0, none⟩) hBm).trans hm
  have hF : Fence.wide.fn 111 := trivial
  refine callsIn_of_wp Try.func111 rfl hF ?_ rfl
  simp only [Try.ntmps111, List.size_toArray, List.length_cons, List.length_nil, Nat.reduceAdd, Nat.reduceSub, Array.replicate_succ, Array.replicate_zero, List.push_toArray, List.append_toArray, List.nil_append, List.cons_append]
  have H0 := Lib.hid (hJ [] W _ none h0 (World.grownBy_alloc W (.mapIter none 0 #[] 0) none) (fun r e => by cases e))
  clear hJ hJx hY h0
  have hrg := run_range_nilMap (P := Try.prog) W 107 5 47 Try.underlying107
  have hnx : ∀ ty, (Instr.next (.pointer (some ⟨W.heap.size, 0, none⟩)) false ty).run Try.prog (W.alloc (.mapIter none 0 #[] 0)) = _ := fun ty => run_next_nilMap _ ty 0 0 #[]
  gi_wp2
  refine wpIn_loop_rounds 1 ?_
  rw [roundsIn_succ]
  gi_wp2
  go_end0
  exact ⟨⟨_, rfl⟩, .inl ⟨[], ⟨List.nodup_nil, fun x => by simp⟩, H0.out⟩⟩

theorem keys_map {Bm : Nat} {mv : Value} {P : UInt8 → Option Nat} {w : World} (hBm : Bm < w.heap.size) (hm : w.cell? ⟨Bm, 0, none⟩ = some mv) (h : NMap w mv P) : KeysAt Bm P w := by
  rcases h with ⟨rfl, rfl⟩ | ⟨m, rfl, h⟩
  · exact keys_nil Bm w hBm hm
  · exact fun n hn => keys_stops n hn Bm m P w hBm hm h
end Go.Proofs.Ytmfchlbafpkgaaa
namespace Go.Proofs.Ytmfchlbafpkgaaa
open Go.RowKit Go.Shelf

attribute [local go_sem] Oper.semAt_some

theorem putObj_owns {W : World} {base n : Nat} {e : TypeId} {size : Nat} {v : Value} {xs : List Value} {D : Nat} {o : Obj} (h : W.ownsRow base e size v n xs) (o' : Obj) (hD : W.heap[D]? = some o) (ho : o.isCells = false) : (W.putObj D o').ownsRow base e size v n xs := by
  refine h.kept (grownBy_putObj' W D o') ?_
  rcases h.2 with ⟨rfl, _⟩ | ⟨g, cap, cur, rfl, _, hg, _⟩
  · exact .inl rfl
  · refine .inr fun e => ?_
    simp [Value.ownBlock] at e
    subst e
    rw [hg] at hD
    cases hD
    cases ho

set_option maxRecDepth 100000 in
set_option maxHeartbeats 2000000 in
theorem appendSeq_keys (n : Nat) (hn : 4 ≤ n) (Bm : Nat) (P : UInt8 → Option Nat) (w : World) (h : KeysAt Bm P w) :
    CallsIn Fence.wide n Try.prog 114 #[.slice none 0 0, .func (.func 111) #[] #[.pointer (some ⟨Bm, 0, none⟩)]] w fun e w' =>
      ∃ v ss, e = .returned v ∧ JustB P ss ∧ w'.ownsRow w.heap.size 5 1 v ss.length (ss.map enc8) ∧ Below w.heap.size w w' := by
  have h1 : 1 ≤ n := by omega
  have hF : Fence.wide.fn 114 := trivial
  have hF2 : Fence.wide.fn 111 := trivial
  obtain ⟨i0, hi, hz1, hz2, hz3⟩ := info_parts i5
  obtain ⟨w0, hw0⟩ : ∃ w0, w.alloc (.cells #[.slice none 0 0] 58) = w0 := ⟨_, rfl⟩
  have hb0 : Below w.heap.size w w0 := by rw [← hw0]; exact (Below.refl _ w).alloc (Nat.le_refl _) _
  have hz0 : w0.heap.size = w.heap.size + 1 := by rw [← hw0]; simp
  have bO : Boxed w0 w.heap.size 58 (.slice none 0 0) := by rw [← hw0]; exact Boxed.new w 58 _
  have hK := h.below hb0 (n - 1) (by omega)
  refine callsIn_of_wp_marks Try.func114 rfl hF ?_ rfl
  simp only [Try.ntmps114, List.size_toArray, List.length_cons, List.length_nil, Nat.reduceAdd, Nat.reduceSub, Array.replicate_succ, Array.replicate_zero, List.push_toArray, List.append_toArray, List.nil_append, List.cons_append]
  gi_wp2
  try rw [hw0]
  refine wpIn_rangeFunc_ownG rfl h1 (gf := 111) (lb := #[.pointer (some ⟨Bm, 0, none⟩)]) rfl hF2 (enters_of Try.func111 (by kernel_rfl) rfl)
    hK walksK_t walksK_b (Below.refl _ _) (fun _ => rfl)
    (fun pre W => (∃ v, Boxed W w.heap.size 58 v ∧ W.ownsRow w.heap.size 5 1 v pre.length (pre.map enc8) ∧ True) ∧ Below w.heap.size w W)
    (fun _ _ _ => False)
    (OwnFrom.and (Own.from (holdsRow_own w.heap.size w.heap.size 58 5 1 (fun pre : List UInt8 => pre.length) (fun pre : List UInt8 => pre.map enc8) (fun _ _ => True)) _) (ownFrom_below (Nat.le_refl _) (by omega)))
    (fun _ _ _ _ _ hs _ _ => hs)
    ⟨⟨_, bO, World.ownsRow_nil _ _ _ _, trivial⟩, hb0⟩
    (fun x => { tmps := #[.slice none 0 0, .func (.func 111) #[] #[.pointer (some ⟨Bm, 0, none⟩)], .pointer (some ⟨w.heap.size, 0, none⟩), undef, .slice none 0 0, enc8 x, .func (.func 111) #[] #[.pointer (some ⟨Bm, 0, none⟩)], enc8 x, undef, undef, undef, undef, undef], defers := [] }) ?assign ?body ?done ?stop
  case assign =>
    intro l x W K hK
    gi_wp2
    exact hK
  case body =>
    rintro l pre x W ⟨⟨v, hv, hrow, -⟩, hB⟩ hlt
    have hc := hv.cell
    gi_wp2_with (gi_at_builtin; refine wpListIn_append_own_at _ rfl _ _ 58 rfl w.heap.size 5 i0 (.int .u8 0) 1 1 Try.underlying58 hi hz1 hz2 hz3 rfl (by decide) _ _ _ rfl (hrow.alloc _) ⟨W.heap.size, 0, none⟩ 1 1 [enc8 x] rfl rfl (cell_one_new _ _ _) (by simp [Value.oneCell']) (by unfold maxLen; omega) (by omega) (by have := hB.size; simp; omega) ?_; intro v' w2 hown' hgrow _ hloc; obtain ⟨g', cap', rfl⟩ := ownsRow_succ hown'; obtain ⟨hv1, hv2, hr2, hk2, hb2⟩ := hv.appended (by decide) hrow hB.size (Nat.le_refl _) hown' hgrow; have hc1 := hv1.cell; have hf1 := hv1.frozen)
    exact ⟨hk2.from _, hk2.walks, ⟨_, hv2, by simpa using hr2, trivial⟩, hB.trans hb2⟩
  case done =>
    rintro D ys W hD hS ⟨⟨v, hv, hrow, -⟩, hB⟩ hK
    have hc := hv.cell
    gi_wp2
    refine ⟨by simp, .inl ⟨_, _, rfl, run_takeDeferred hK, ?_⟩⟩
    exact ⟨_, results_tmp rfl _ _ _, v, ys, rfl, hS, putObj_owns hrow _ hK rfl, hB.trans (belowK_b (w := w) (Nat.le_refl _) W D _ _ (by omega) hK rfl rfl)⟩
  case stop =>
    rintro D c pre W _ _ h _
    exact h.elim

set_option maxHeartbeats 1000000 in
theorem collect_keys (Bm : Nat) (P : UInt8 → Option Nat) (w : World) (h : KeysAt Bm P w) :
    Calls Try.prog 109 #[.func (.func 111) #[] #[.pointer (some ⟨Bm, 0, none⟩)]] w fun e w' =>
      ∃ v ss, e = .returned v ∧ JustB P ss ∧ w'.ownsRow w.heap.size 5 1 v ss.length (ss.map enc8) ∧ Below w.heap.size w w' := by
  have q := (callsIn_wide (n := 4)).1 (appendSeq_keys 4 (by omega) Bm P w h)
  clear h
  go_enter Try.func109, Try.ntmps109
  go_wp2_with (go_at_call 114; (with_reducible refine q.mono ?_); rintro e w1 ⟨v, ss, rfl, hJ, hrow, hb⟩; have H := Lib.hid (And.intro hJ (And.intro hrow hb)); clear hJ hrow hb)
  go_ret
  exact ⟨v, ss, rfl, H.out.1, H.out.2.1, H.out.2.2⟩
end Go.Proofs.Ytmfchlbafpkgaaa
namespace Go.Proofs.Ytmfchlbafpkgaaa
open Go.RowKit Go.Shelf Go.Sort

set_option maxHeartbeats 1000000 in
theorem ins_nil (W : World) : Calls Try.prog 117 #[.slice none 0 0, .int .i64 0, .int .i64 0] W fun e w' => e = .returned (.tuple #[]) ∧ W = w' := by
  go_enter Try.func117, Try.ntmps117
  go_wp2
  go_loopw [6] (fun v wr => v = .int .i64 1 ∧ wr = W) (fun _ _ => 0)
  case atStart => exact ⟨rfl, rfl⟩
  case round =>
    obtain ⟨rfl, rfl⟩ := hrel
    go_wp2
    go_end0
    exact ⟨rfl, rfl⟩

set_option maxHeartbeats 1000000 in
theorem pdq_nil (k : Int) (W : World) : Calls Try.prog 115 #[.slice none 0 0, .int .i64 0, .int .i64 0, .int .i64 k] W fun e w' => e = .returned (.tuple #[]) ∧ W = w' := by
  have q := ins_nil W
  go_enter Try.func115, Try.ntmps115
  go_wp2
  go_loopw [1, 2, 3, 8, 9] (fun v1 v2 v3 v8 v9 wr => v1 = .int .i64 0 ∧ v2 = .int .i64 0 ∧ v3 = .int .i64 k ∧ v8 = .bool true ∧ v9 = .bool true ∧ wr = W) (fun _ _ _ _ _ _ => 0)
  case atStart => exact ⟨rfl, rfl, rfl, rfl, rfl, rfl⟩
  case round =>
    obtain ⟨rfl, rfl, rfl, rfl, rfl, rfl⟩ := hrel
    go_wp2_with (go_at_call 117; (with_reducible refine q.mono ?_); rintro e w1 ⟨rfl, rfl⟩)
    exact bodyPost_ret (v := .tuple #[]) (by simp [results, Try.results115, go_sem]) rfl ⟨rfl, rfl⟩

theorem list_toArray_at (l : List UInt8) (j : Nat) (h : j < l.length) : l.toArray[j]! = l[j] := by simp [h]

theorem s8_of_owns {W : World} {base g cap : Nat} {cur : Array Value} {ss : List UInt8} (hg : W.heap[g]? = some (.cells cur 5 (0, 0))) (ht : cur.toList.take (ss.length * 1) = ss.map enc8) : S8 W g ss.toArray W := by
  refine ⟨fun j hj => ?_, fun j hj => ?_, ⟨rfl, rfl, rfl, Nat.le_refl _, fun _ _ _ => rfl⟩, (Array.getElem?_eq_some_iff.1 hg).1, fun cs T fz h => ⟨cs, h, rfl⟩⟩
  · have hj' : j < ss.length := by simpa using hj
    have hx : (ss.map enc8)[j]? = some (enc8 ss[j]) := by simp [hj']
    rw [← ht, List.getElem?_take, if_pos (by omega), Array.getElem?_toList] at hx
    rw [list_toArray_at ss j hj']
    simp [World.cell?, hg, hx]
  · simp [World.frozen?, hg]

set_option maxHeartbeats 1000000 in
theorem sort8 (W : World) (base : Nat) (v : Value) (ss : List UInt8) (h : W.ownsRow base 5 1 v ss.length (ss.map enc8)) (hn : ss.length < 50) :
    Calls Try.prog 110 #[v] W fun e w' => ∃ ss' : List UInt8, e = .returned (.tuple #[]) ∧ ss'.Perm ss ∧ ss'.Pairwise (fun a b => a.toNat ≤ b.toNat) ∧ w'.ownsRow base 5 1 v ss'.length (ss'.map enc8) ∧ W.grownBy w' v.ownBlock := by
  rcases h.2 with ⟨rfl, h0⟩ | ⟨g, cap, cur, rfl, hb, hg, h1, h2, h3, ht⟩
  · have hss : ss = [] := List.eq_nil_of_length_eq_zero h0
    have qL : ∀ W, Calls Try.prog 116 #[.int .u64 0] W fun e w' => e = .returned (.int .i64 0) ∧ w' = W := fun W => Try.bits_Len 0 W (by omega) (by omega)
    have qP := pdq_nil 0 W
    subst hss
    have H := Lib.hid h
    clear h h0
    go_enter Try.func110, Try.ntmps110
    go_wp2_with (first
      | (go_at_call 116; (with_reducible refine (qL _).mono ?_); rintro e w1 ⟨rfl, rfl⟩)
      | (go_at_call 115; (with_reducible refine qP.mono ?_); rintro e w1 ⟨rfl, rfl⟩))
    go_end0
    exact ⟨[], rfl, List.Perm.refl _, List.Pairwise.nil, H.out, ⟨rfl, rfl, rfl, Nat.le_refl _, fun _ _ _ => rfl⟩⟩
  · obtain ⟨n, hnn⟩ : ∃ n, n = ss.length := ⟨_, rfl⟩
    have hbl := (bitsLen_le_iff n 62).2 (by omega)
    have qL : ∀ W, Calls Try.prog 116 #[.int .u64 (n : Int)] W fun e w' => e = .returned (.int .i64 (bitsLen n : Nat)) ∧ w' = W := fun W => by
      have h := Try.bits_Len (n : Int) W (by omega) (by omega)
      rwa [Int.toNat_natCast, bitLen_eq _ (by omega)] at h
    obtain ⟨bl, hbl2⟩ : ∃ bl, bl = bitsLen n := ⟨_, rfl⟩
    rw [← hbl2] at qL hbl
    have S := s8_of_owns (base := base) (cap := cap) hg ht
    have qP := pdq8 g n cap W (by omega) n 0 n bl ss.toArray W (by omega) (by simp [hnn]) S (Nat.zero_le _) (Nat.le_refl _) (by omega) (by omega) (Or.inl rfl)
    rw [cast0] at qP
    have HX := Lib.hid (And.intro hg (And.intro hb (And.intro h1 (And.intro h2 (And.intro h3 hnn)))))
    have hn2 : n < 50 := by omega
    rw [← hnn]
    clear hg ht h h1 h2 h3 S hb hbl2 hnn hn
    go_enter Try.func110, Try.ntmps110
    go_wp2_with (first
      | (go_at_call 116; (with_reducible refine (qL _).mono ?_); rintro e w1 ⟨rfl, rfl⟩)
      | (go_at_call 115; (with_reducible refine qP.mono ?_); rintro e w1 ⟨d', rfl, hP, hO, hS⟩; have H := Lib.hid (And.intro hP (And.intro hO hS)); clear hP hO hS))
    go_end0
    obtain ⟨hP, hO, hS⟩ := H.out
    obtain ⟨hg, hb, h1, h2, h3, hnn⟩ := HX.out
    have hsz : d'.size = n := by rw [hP.1]; simp [hnn]
    refine ⟨d'.toList, rfl, ?_, ?_, ⟨by simp, .inr ⟨g, cap, ?_⟩⟩, hS.grown⟩
    · have hp := hP.2.2
      have e1 : d'.extract 0 n = d' := by rw [← hsz]; simp
      have e2 : ss.toArray.extract 0 n = ss.toArray := by rw [hnn]; simp
      rw [e1, e2] at hp
      simpa using hp
    · rw [List.pairwise_iff_getElem]
      intro i j hi hj hij
      have hi' : i < d'.size := by simpa using hi
      have hj' : j < d'.size := by simpa using hj
      have := hO i j (Nat.zero_le _) hij (by omega)
      unfold lt8 at this
      have := of_decide_eq_false this
      rw [getElem!_pos d' i hi', getElem!_pos d' j hj'] at this
      simp only [Array.getElem_toList]
      omega
    · obtain ⟨cs', k1, k2⟩ := hS.typed _ _ _ hg
      refine ⟨cs', by rw [Array.length_toList, hsz], hb, k1, by rw [Array.length_toList, hsz, hnn]; exact h1, h2, by rw [k2]; exact h3, ?_⟩
      apply List.ext_getElem?
      intro j
      rw [Array.length_toList, hsz, Nat.mul_one, List.getElem?_take, List.getElem?_map, Array.getElem?_toList, Array.getElem?_toList]
      by_cases hj : j < n
      · rw [if_pos hj]
        have hc := hS.cells j (by omega)
        have hj' : j < d'.size := by omega
        simp [World.cell?, k1] at hc
        rw [hc, Array.getElem?_eq_getElem hj']
        simp [hj']
      · rw [if_neg hj, Array.getElem?_eq_none (by omega)]
        rfl

/-- Lists that rise, of the same bytes, are one. -/
theorem sorted_is {P : UInt8 → Option Nat} {ss ss' L : List UInt8} (hJ : JustB P ss) (hp : ss'.Perm ss) (hs : ss'.Pairwise (fun a b => a.toNat ≤ b.toNat)) (hL : L.Pairwise (fun a b => a.toNat < b.toNat)) (hm : ∀ x, x ∈ L ↔ (P x).isSome = true) : ss' = L := by
  have hn : L.Nodup := hL.imp fun h e => by subst e; omega
  have hpl : ss.Perm L := (List.perm_ext_iff_of_nodup hJ.1 hn).2 fun x => by rw [hJ.2 x, hm x]
  exact List.Perm.eq_of_pairwise (le := fun a b => a.toNat ≤ b.toNat) (fun a b _ _ h1 h2 => UInt8.toNat_inj.1 (by omega)) hs (hL.imp fun h => by omega) (hp.trans hpl)

set_option maxHeartbeats 1000000 in
theorem sorted_keys (Bm : Nat) (P : UInt8 → Option Nat) (L : List UInt8) (w : World) (h : KeysAt Bm P w) (hL : L.Pairwise (fun a b => a.toNat < b.toNat)) (hmem : ∀ x, x ∈ L ↔ (P x).isSome = true) (hl : L.length < 50) :
    Calls Try.prog 92 #[.func (.func 111) #[] #[.pointer (some ⟨Bm, 0, none⟩)]] w fun e w' =>
      ∃ v, e = .returned v ∧ w'.ownsRow w.heap.size 5 1 v L.length (L.map enc8) ∧ Below w.heap.size w w' := by
  have q := collect_keys Bm P w h
  have H0 := Lib.hid (And.intro hL hmem)
  clear h hL hmem
  have HS := Lib.hid (fun (W : World) (v : Value) (ss : List UInt8) h1 h2 => sort8 W w.heap.size v ss h1 h2)
  have hlen : ∀ ss, JustB P ss → ss.length < 50 := fun ss hJ => by
    have hn : L.Nodup := H0.out.1.imp fun h e => by subst e; omega
    have := ((List.perm_ext_iff_of_nodup hJ.1 hn).2 fun x => by rw [hJ.2 x, H0.out.2 x]).length_eq
    omega
  have HL := Lib.hid hlen
  clear hlen
  go_enter Try.func92, Try.ntmps92
  go_wp2_with (first
    | (go_at_call 109; (with_reducible refine q.mono ?_); rintro e w1 ⟨v, ss, rfl, hJ, hrow, hb⟩; have q2 := HS.out w1 v ss hrow (HL.out ss hJ); have H := Lib.hid (And.intro hJ (And.intro hb hrow)); clear hJ hrow hb q)
    | (go_at_call 110; (with_reducible refine q2.mono ?_); rintro e w2 ⟨ss', rfl, hp, hs, hrow, hg⟩; have H2 := Lib.hid (And.intro hp (And.intro hs (And.intro hrow hg))); clear hp hs hrow hg q2))
  go_ret
  obtain ⟨hJ, hb, hrow0⟩ := H.out
  obtain ⟨hp, hs, hrow, hg⟩ := H2.out
  have e := sorted_is hJ hp hs H0.out.1 H0.out.2
  subst e
  exact ⟨v, rfl, hrow, hb.grown hg hb.size (fun k hk => (hrow0.lt k hk).1)⟩
end Go.Proofs.Ytmfchlbafpkgaaa

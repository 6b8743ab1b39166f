/-
  The library's sort at bytes: a row of bytes in one block that a sort turns; the order of bytes. The library's sort at bytes: the insertion sort, and what turns a part around. The library's sort at bytes: the choice of a pivot among few (fewer than fifty) elements. The library's sort at bytes, of fifty elements and more: the pivot (the ninther).
-/
import Derived.Test.YthgdanbkngnckaaT02
import Derived.Test.YthgdanbkngnckaaT04
import Derived.Sort.WalkA
import Derived.Sort.LotD3
import Derived.CellFam
import Derived.BigGuard
import Derived.BigCall
set_option linter.unusedVariables false
set_option linter.unusedSimpArgs false
namespace Go.Proofs.Ythgdanbkngnckaa
open Go.RowKit Go.Sort

/-- A byte, as a cell. -/
abbrev enc8 (x : UInt8) : Value := .int .u8 (x.toNat : Int)
/-- Is the first byte less? -/
def lt8 (x y : UInt8) : Bool := decide (x.toNat < y.toNat)

theorem swo8 : SWO lt8 where
  irrefl x := by unfold lt8; exact decide_eq_false (by omega)
  trans x y z h1 h2 := by unfold lt8 at *; have := of_decide_eq_true h1; have := of_decide_eq_true h2; exact decide_eq_true (by omega)
  ntrans x y z h1 h2 := by unfold lt8 at *; have := of_decide_eq_false h1; have := of_decide_eq_false h2; exact decide_eq_false (by omega)

/-- The world W is w0 but for what has been made since, and block blk, whose first cells are the bytes d. -/
structure S8 (w0 : World) (blk : Nat) (d : Array UInt8) (W : World) : Prop where
  cells : ∀ j, j < d.size → W.cell? ⟨blk, j, none⟩ = some (enc8 d[j]!)
  free : ∀ j, j < d.size → W.frozen? ⟨blk, j, none⟩ = false
  grown : w0.grownBy W (some blk)
  lt : blk < w0.heap.size
  typed : ∀ cs T fz, w0.heap[blk]? = some (.cells cs T fz) → ∃ cs', W.heap[blk]? = some (.cells cs' T fz) ∧ cs'.size = cs.size

theorem grownBy_drewN {a b : World} {row : Option Nat} (h : a.grownBy b row) (n : Nat) : a.grownBy (b.drewN n) row := ⟨h.os, h.tape, h.output, h.size, h.block⟩
theorem S8.drewN {w0 W : World} {blk : Nat} {d : Array UInt8} (h : S8 w0 blk d W) (n : Nat) : S8 w0 blk d (W.drewN n) := ⟨h.cells, h.free, grownBy_drewN h.grown n, h.lt, h.typed⟩
theorem S8.drew {w0 W : World} {blk : Nat} {d : Array UInt8} (h : S8 w0 blk d W) : S8 w0 blk d W.drew := h.drewN 1

theorem S8.size {w0 W : World} {blk : Nat} {d : Array UInt8} (h : S8 w0 blk d W) : w0.heap.size ≤ W.heap.size := h.grown.size

/-- New blocks, and blocks that were made since. -/
theorem S8.off {w0 W W' : World} {blk : Nat} {d : Array UInt8} {row : Option Nat} (h : S8 w0 blk d W) (hg : W.grownBy W' row) (hr : ∀ r, row = some r → w0.heap.size ≤ r) : S8 w0 blk d W' := by
  have hs := h.size
  have hl := h.lt
  have hne : some blk ≠ row := fun e => by have := hr blk e.symm; omega
  have hb : W'.heap[blk]? = W.heap[blk]? := hg.block blk (by omega) hne
  refine ⟨fun j hj => ?_, fun j hj => ?_, ?_, h.lt, fun cs T fz h0 => by rw [hb]; exact h.typed cs T fz h0⟩
  · rw [World.cell?_of_block (w := W) (a := ⟨blk, j, none⟩) hb]; exact h.cells j hj
  · rw [World.frozen?_of_block (w := W) (a := ⟨blk, j, none⟩) hb]; exact h.free j hj
  · obtain ⟨g1, g2, g3, g4, g5⟩ := h.grown
    obtain ⟨k1, k2, k3, k4, k5⟩ := hg
    clear hs
    refine ⟨k1.trans g1, k2.trans g2, k3.trans g3, Nat.le_trans g4 k4, fun k hk hne' => ?_⟩
    exact (k5 k (by omega) (fun e => by have := hr k e.symm; omega)).trans (g5 k hk hne')

theorem S8.alloc {w0 W : World} {blk : Nat} {d : Array UInt8} (h : S8 w0 blk d W) (o : Obj) : S8 w0 blk d (W.alloc o) := h.off (World.grownBy_alloc W o none) (fun _ e => by cases e)
theorem S8.below {w0 W W' : World} {blk : Nat} {d : Array UInt8} (h : S8 w0 blk d W) (hb : Go.RowKit.Below W.heap.size W W') : S8 w0 blk d W' := by
  refine h.off (row := none) ⟨hb.os, hb.tape, hb.output, hb.size, fun k hk _ => hb.block k hk⟩ (fun _ e => by cases e)
theorem S8.setNew {w0 W : World} {blk : Nat} {d : Array UInt8} (h : S8 w0 blk d W) (c i : Nat) (v : Value) (hc : w0.heap.size ≤ c) : S8 w0 blk d (W.setCell ⟨c, i, none⟩ v) :=
  h.off (grown_setCell W c i v) (fun r e => by cases e; exact hc)

theorem swp_at (d : Array UInt8) (i j k : Nat) (hi : i < d.size) (hj : j < d.size) : (swp d i j)[k]! = if k = j then d[i]! else if k = i then d[j]! else d[k]! := by
  by_cases h : k = j
  · rw [if_pos h, h, swp_right _ _ _ hj]
  · rw [if_neg h]
    by_cases h2 : k = i
    · rw [if_pos h2, h2, swp_left _ _ _ hi (fun e => h (h2.trans e))]
    · rw [if_neg h2, swp_other _ _ _ _ h2 h]

/-- Two cells exchanged. -/
theorem S8.swapped {w0 W : World} {blk : Nat} {d : Array UInt8} (h : S8 w0 blk d W) (i j : Nat) (hi : i < d.size) (hj : j < d.size) :
    S8 w0 blk (swp d i j) ((W.setCell ⟨blk, i, none⟩ (enc8 d[j]!)).setCell ⟨blk, j, none⟩ (enc8 d[i]!)) := by
  refine ⟨fun k hk => ?_, fun k hk => ?_, ?_, h.lt, fun cs T fz h0 => ?_⟩
  · rw [size_swp] at hk
    rw [swp_at d i j k hi hj]
    have c1 : (W.setCell ⟨blk, i, none⟩ (enc8 d[j]!)).cell? ⟨blk, j, none⟩ = some (if j = i then enc8 d[j]! else enc8 d[j]!) := by
      by_cases e : j = i
      · subst e; rw [World.cell?_setCell_same (h := h.cells _ hj)]; simp
      · rw [World.cell?_setCell_other (h := fun x => e (by injection x with _ x; exact x.symm)), h.cells j hj]; simp
    by_cases e : k = j
    · subst e
      rw [if_pos rfl, World.cell?_setCell_same (h := c1)]
    · rw [if_neg e, World.cell?_setCell_other (h := fun x => e (by injection x with _ x; exact x.symm))]
      by_cases e2 : k = i
      · subst e2
        rw [if_pos rfl, World.cell?_setCell_same (h := h.cells _ hk)]
      · rw [if_neg e2, World.cell?_setCell_other (h := fun x => e2 (by injection x with _ x; exact x.symm)), h.cells k hk]
  · rw [size_swp] at hk
    rw [World.frozen?_setCell, World.frozen?_setCell]; exact h.free k hk
  · obtain ⟨g1, g2, g3, g4, g5⟩ := h.grown
    refine ⟨g1, g2, g3, by simpa using g4, fun k hk hne => ?_⟩
    rw [Go.RowKit.Below.heap_setCell _ ⟨blk, j, none⟩ _ k (fun e => hne (by rw [e])), Go.RowKit.Below.heap_setCell _ ⟨blk, i, none⟩ _ k (fun e => hne (by rw [e]))]
    exact g5 k hk hne
  · obtain ⟨cs', h1, h2⟩ := h.typed cs T fz h0
    refine ⟨(cs'.setIfInBounds i (enc8 d[j]!)).setIfInBounds j (enc8 d[i]!), ?_, by simp [h2]⟩
    have hset : ∀ (V : World) (c : Array Value) (i : Nat) (v : Value), V.heap[blk]? = some (.cells c T fz) → (V.setCell ⟨blk, i, none⟩ v).heap[blk]? = some (.cells (c.setIfInBounds i v) T fz) := fun V c i v hV => by
      obtain ⟨hlt, hk⟩ := Array.getElem?_eq_some_iff.1 hV
      show (V.heap.modify blk _)[blk]? = _
      rw [Array.getElem?_eq_getElem (by rw [Array.size_modify]; exact hlt), Array.getElem_modify_self, hk]
      rfl
    exact hset _ _ _ _ (hset _ _ _ _ h1)

theorem less8 (x y : UInt8) (w : World) : Calls Try.prog 96 #[.int .u8 (x.toNat : Int), .int .u8 (y.toNat : Int)] w fun e w' => e = .returned (.bool (lt8 x y)) ∧ w' = w := by
  have q : ∀ (z : UInt8) (W : World), Calls Try.prog 106 #[.int .u8 (z.toNat : Int)] W fun e w' => e = .returned (.bool false) ∧ W = w' := fun z W => by
    have e0 : ((z.toNat : Int) != (z.toNat : Int)) = false := by simp
    go_enter Try.func106, Try.ntmps106
    go_wp2
    go_ret
    exact ⟨rfl, rfl⟩
  unfold lt8
  have hx := x.toNat_lt
  have hy := y.toNat_lt
  obtain ⟨r, hr⟩ : ∃ r, decide (x.toNat < y.toNat) = r := ⟨_, rfl⟩
  have hr2 : decide ((x.toNat : Int) < (y.toNat : Int)) = r := by rw [← hr]; simp
  rw [hr]
  cases r
  all_goals
    go_enter Try.func96, Try.ntmps96
    go_wp2_with (go_at_call 106; (with_reducible refine (q _ _).mono ?_); rintro e w1 ⟨rfl, rfl⟩)
    go_ret
    exact ⟨rfl, rfl⟩
end Go.Proofs.Ythgdanbkngnckaa
namespace Go.Proofs.Ythgdanbkngnckaa
open Go.RowKit Go.Sort

set_option maxHeartbeats 1000000 in
theorem ins8 (blk cap a b : Nat) (d : Array UInt8) (w0 w : World) (S : S8 w0 blk d w) (hab : a ≤ b) (hb : b ≤ d.size) (hsz : d.size < 4611686018427387904) :
    Calls Try.prog 90 #[.slice (some ⟨blk, 0, none⟩) d.size cap, .int .i64 a, .int .i64 b] w fun e w' => e = .returned (.tuple #[]) ∧ S8 w0 blk (Sort.insertionSort lt8 d a b) w' := by
  have S0 := Lib.hid S
  clear S
  go_enter Try.func90, Try.ntmps90
  go_wp2
  go_loopw [6] (fun vi wr => ∃ (i : Nat) (dk : Array UInt8), vi = .int .i64 i ∧ a < i ∧ i ≤ b + 1 ∧ dk.size = d.size ∧ S8 w0 blk dk wr ∧
      insOuter lt8 a b i dk = Sort.insertionSort lt8 d a b) (fun vi _ => b + 1 - (intOf vi).toNat)
  case atStart => exact ⟨a + 1, d, by go_num, by omega, by omega, rfl, S0.out, rfl⟩
  case round =>
    clear S0
    obtain ⟨i, dk, rfl, hai, hib, hsk, Sk, hO⟩ := hrel
    have HO := Lib.hid hO
    have HS := Lib.hid Sk
    clear hO Sk
    by_cases hlt : i < b
    · go_wp2
      go_loopw [7] (fun vj wr2 => ∃ (j : Nat) (dj : Array UInt8), vj = .int .i64 j ∧ a ≤ j ∧ j ≤ i ∧ dj.size = d.size ∧ S8 w0 blk dj wr2 ∧
          insInner lt8 a j dj = insInner lt8 a i dk) (fun vj _ => (intOf vj).toNat)
      case atStart => exact ⟨i, dk, rfl, by omega, Nat.le_refl _, hsk, HS.out, rfl⟩
      case round =>
        clear HS
        obtain ⟨j, dj, rfl, haj, hji, hsj, Sj, hI⟩ := hrel
        obtain ⟨G, hG⟩ : ∃ G : Nat → UInt8, ∀ t, G t = dj[t]! := ⟨fun t => dj[t]!, fun _ => rfl⟩
        have hcw : ∀ t, t < d.size → wr.cell? ⟨blk, t, none⟩ = some (.int .u8 ((G t).toNat : Int)) := fun t ht => by rw [hG]; exact Sj.cells t (by omega)
        have hfw : ∀ t, t < d.size → wr.frozen? ⟨blk, t, none⟩ = false := fun t ht => Sj.free t (by omega)
        have HW := Lib.hid Sj
        have HG := Lib.hid hG
        have HI := Lib.hid hI
        clear Sj hG hI
        have OUT := Lib.hid (show (j ≤ a ∨ lt8 dj[j]! dj[j - 1]! = false) → ∀ q, ∃ (i' : Nat) (dk' : Array UInt8), Value.int .i64 ((i : Int) + 1) = .int .i64 (i' : Nat) ∧ a < i' ∧ i' ≤ b + 1 ∧ dk'.size = d.size ∧
            S8 w0 blk dk' (wr.drewN q) ∧ insOuter lt8 a b i' dk' = Sort.insertionSort lt8 d a b from fun hs q =>
          ⟨i + 1, dj, by go_num, by omega, by omega, hsj, HW.out.drewN q, by rw [← HO.out, insOuter_go _ _ _ _ _ hlt, ← HI.out, insInner_stop _ _ _ _ hs]⟩)
        go_wp2
        have hjd : j < d.size := by omega
        by_cases hja : a < j
        · obtain ⟨jp, hjp⟩ : ∃ jp, j = jp + 1 := ⟨j - 1, by omega⟩
          have hw1 : IntKind.i64.wrap ((j : Int) - 1) = (jp : Int) := by rw [IntKind.wrap_i64]; omega
          have hw2 : (j : Int) - 1 = (jp : Int) := by omega
          have hjpd : jp < d.size := by omega
          have HJ := Lib.hid hjp
          clear hjp
          go_quiet (first | (go_at_call 96; refine Calls.quiet_of_same (less8 _ _ _)))
          go_wp2
          · have hl : lt8 (G j) (G jp) = true := by assumption
            go_region
            all_goals go_wp2
            go_roundw
            case rel =>
              have hj1 : j - 1 = jp := by have := HJ.out; omega
              refine ⟨jp, swp dj j jp, rfl, by omega, by omega, by rw [size_swp]; exact hsj, ?_, ?_⟩
              · have := ((HW.out.drewN nq).drew).swapped j jp (by omega) (by omega)
                rw [← HG.out, ← HG.out] at this
                exact this
              · rw [← HI.out, insInner_go lt8 a j dj hja (by rw [← HG.out, ← HG.out, hj1]; exact hl), hj1]
            case measure => simp [intOf]; omega
          · have hl : lt8 (G j) (G jp) = false := by assumption
            go_roundw
            case rel => exact OUT.out (Or.inr (by rw [← HG.out, ← HG.out, show j - 1 = jp by have := HJ.out; omega]; exact hl)) nq
            case measure => simp [intOf]; omega
        · go_quiet (first | (go_at_call 96; refine Calls.quiet_of_same (less8 _ _ _)))
          go_wp2
          go_roundw
          case rel => exact OUT.out (Or.inl (by omega)) nq
          case measure => simp [intOf]; omega
    · go_wp2
      go_end0
      exact ⟨rfl, by rw [← HO.out, insOuter_stop _ _ _ _ _ hlt]; exact HS.out⟩
end Go.Proofs.Ythgdanbkngnckaa
namespace Go.Proofs.Ythgdanbkngnckaa
open Go.RowKit Go.Sort

/-- A counter, in a block that was made since the sort began. -/
structure C8 (w0 : World) (c : Nat) (s : Nat) (W : World) : Prop where
  cell : W.heap[c]? = some (.cells #[.int .i64 (s : Int)] 3 (0, 0))
  new : w0.heap.size ≤ c
  few : s ≤ 100

theorem C8.cell? {w0 W : World} {c s : Nat} (h : C8 w0 c s W) : W.cell? ⟨c, 0, none⟩ = some (.int .i64 (s : Int)) ∧ W.frozen? ⟨c, 0, none⟩ = false := by
  simp [World.cell?, World.frozen?, h.cell]

theorem C8.bump {w0 W : World} {c s : Nat} (h : C8 w0 c s W) (t : Nat) (ht : t ≤ 100) : C8 w0 c t (W.setCell ⟨c, 0, none⟩ (.int .i64 (t : Int))) := by
  refine ⟨?_, h.new, ht⟩
  rw [cells_setCell h.cell]; rfl
theorem C8.drewN {w0 W : World} {c s : Nat} (h : C8 w0 c s W) (n : Nat) : C8 w0 c s (W.drewN n) := ⟨h.cell, h.new, h.few⟩

/-- What order2 answers of two places: the two, in one order or the other. -/
structure Or2 (w0 : World) (blk c a b s : Nat) (d : Array UInt8) (e : Ending) (w' : World) (p q s' : Nat) : Prop where
  ans : e = .returned (.tuple #[.int .i64 (p : Int), .int .i64 (q : Int)])
  pq : (p = a ∧ q = b) ∨ (p = b ∧ q = a)
  s : s' ≤ s + 1
  S : S8 w0 blk d w'
  C : C8 w0 c s' w'

set_option maxHeartbeats 1000000 in
theorem order8 (blk len cap a b c s : Nat) (d : Array UInt8) (w0 w : World) (hlen : d.size = len) (S : S8 w0 blk d w) (C : C8 w0 c s w) (hs : s ≤ 50) (ha : a < len) (hb : b < len) (hsz : len < 4611686018427387904) :
    Calls Try.prog 107 #[.slice (some ⟨blk, 0, none⟩) len cap, .int .i64 a, .int .i64 b, .pointer (some ⟨c, 0, none⟩)] w fun e w' => ∃ p q s', Or2 w0 blk c a b s d e w' p q s' := by
  obtain ⟨G, hG⟩ : ∃ G : Nat → UInt8, ∀ t, G t = d[t]! := ⟨fun t => d[t]!, fun _ => rfl⟩
  have hcw : ∀ t, t < len → w.cell? ⟨blk, t, none⟩ = some (.int .u8 ((G t).toNat : Int)) := fun t ht => by rw [hG]; exact S.cells t (by omega)
  obtain ⟨hcc, hcf⟩ := C.cell?
  have SK := Lib.hid S
  have CK := Lib.hid C
  obtain ⟨r, hr⟩ : ∃ r, lt8 (G b) (G a) = r := ⟨_, rfl⟩
  have q := less8 (G b) (G a)
  rw [hr] at q
  have es : (s : Int) + 1 = ((s + 1 : Nat) : Int) := by omega
  have ES := Lib.hid es
  clear hr hG S C es hlen
  cases r
  · go_enter Try.func107, Try.ntmps107
    go_wp2
    go_quiet (first | (go_at_call 96; refine Calls.quiet_of_same (q _)))
    go_wp2
    go_ret2
    exact ⟨a, b, s, ⟨rfl, .inl ⟨rfl, rfl⟩, by omega, SK.out.drewN nq, CK.out.drewN nq⟩⟩
  · go_enter Try.func107, Try.ntmps107
    go_wp2
    go_quiet (first | (go_at_call 96; refine Calls.quiet_of_same (q _)))
    have h1 : (w.drewN nq).cell? ⟨c, 0, none⟩ = some (.int .i64 (s : Int)) := hcc
    have h2 : (w.drewN nq).frozen? ⟨c, 0, none⟩ = false := hcf
    have SK2 := Lib.hid ((SK.out.drewN nq).setNew c 0 (.int .i64 ((s + 1 : Nat) : Int)) CK.out.new)
    have CK2 := Lib.hid ((CK.out.drewN nq).bump (s + 1) (by omega))
    rw [← ES.out] at SK2 CK2
    clear hcc hcf hcw
    generalize w.drewN nq = w2 at h1 h2 SK2 CK2 ⊢
    go_wp2
    go_ret2
    exact ⟨b, a, s + 1, ⟨rfl, .inr ⟨rfl, rfl⟩, by omega, SK2.out, CK2.out⟩⟩

/-- What the median answers: one of three places. -/
structure Med (w0 : World) (blk c a b m s : Nat) (d : Array UInt8) (e : Ending) (w' : World) (p s' : Nat) : Prop where
  ans : e = .returned (.int .i64 (p : Int))
  p3 : p = a ∨ p = b ∨ p = m
  s : s' ≤ s + 3
  S : S8 w0 blk d w'
  C : C8 w0 c s' w'

set_option maxHeartbeats 1000000 in
theorem median8 (blk len cap a b m c s : Nat) (d : Array UInt8) (w0 w : World) (hlen : d.size = len) (S : S8 w0 blk d w) (C : C8 w0 c s w) (hs : s ≤ 40) (ha : a < len) (hb : b < len) (hm : m < len) (hsz : len < 4611686018427387904) :
    Calls Try.prog 105 #[.slice (some ⟨blk, 0, none⟩) len cap, .int .i64 a, .int .i64 b, .int .i64 m, .pointer (some ⟨c, 0, none⟩)] w fun e w' => ∃ p s', Med w0 blk c a b m s d e w' p s' := by
  have q0 := fun (a b s : Nat) (W : World) (S : S8 w0 blk d W) (C : C8 w0 c s W) (h1 : s ≤ 50) (h2 : a < len) (h3 : b < len) => order8 blk len cap a b c s d w0 W hlen S C h1 h2 h3 hsz
  have q1 := q0 a b s w S C (by omega) ha hb
  have Q := Lib.hid q0
  clear q0 S C hlen
  go_enter Try.func105, Try.ntmps105
  go_wp2_with (go_at_call 107; first | ((with_reducible refine q1.mono ?_); rintro e w1 ⟨p1, r1, s1, rfl, h1, h2, S1, C1⟩; have q2 := Q.out r1 m s1 w1 S1 C1 (by omega) (by omega) hm; clear q1; have H1 := Lib.hid (And.intro h1 (And.intro S1 C1)); clear h1 S1 C1) | ((with_reducible refine q2.mono ?_); rintro e w1 ⟨p2, r2, s2, rfl, h3, h4, S1, C1⟩; have q3 := Q.out p1 p2 s2 w1 S1 C1 (by omega) (by have := H1.out.1; omega) (by have := H1.out.1; omega); clear q2; have H2 := Lib.hid (And.intro h3 (And.intro S1 C1)); clear h3 S1 C1) | ((with_reducible refine q3.mono ?_); rintro e w1 ⟨p3, r3, s3, rfl, h5, h6, S1, C1⟩; have H3 := Lib.hid h5; have HS := Lib.hid S1; have HC := Lib.hid C1; clear h5 q3 S1 C1))
  go_ret
  exact ⟨r3, s3, ⟨rfl, by have := H1.out.1; have := H2.out.1; have := H3.out; omega, by omega, HS.out, HC.out⟩⟩

/-- What choosePivot answers: a place in the part, and a hint. -/
structure Piv (w0 : World) (blk a b : Nat) (d : Array UInt8) (e : Ending) (w' : World) (p h : Nat) : Prop where
  ans : e = .returned (.tuple #[.int .i64 (p : Int), .int .i64 (h : Int)])
  pa : a ≤ p
  pb : p < b
  hint : h ≤ 2
  S : S8 w0 blk d w'

set_option maxHeartbeats 1000000 in
theorem pivot8 (blk len cap a b : Nat) (d : Array UInt8) (w0 w : World) (hlen : d.size = len) (S : S8 w0 blk d w) (h12 : a + 12 < b) (h50 : b < a + 50) (hb : b ≤ len) (hsz : len < 4611686018427387904) :
    Calls Try.prog 93 #[.slice (some ⟨blk, 0, none⟩) len cap, .int .i64 a, .int .i64 b] w fun e w' => ∃ p h, Piv w0 blk a b d e w' p h := by
  obtain ⟨l, hl⟩ : ∃ l, l = b - a := ⟨_, rfl⟩
  have el : (b : Int) - (a : Int) = (l : Int) := by omega
  obtain ⟨i, hi⟩ : ∃ i, i = a + l / 4 := ⟨_, rfl⟩
  obtain ⟨j, hj⟩ : ∃ j, j = a + l / 4 * 2 := ⟨_, rfl⟩
  obtain ⟨k, hk⟩ : ∃ k, k = a + l / 4 * 3 := ⟨_, rfl⟩
  have ei : (a : Int) + (l : Int) / 4 = (i : Int) := by omega
  have ej : (a : Int) + (l : Int) / 4 * 2 = (j : Int) := by omega
  have ek : (a : Int) + (l : Int) / 4 * 3 = (k : Int) := by omega
  have C0 : C8 w0 w.heap.size 0 (w.alloc (.cells #[.int .i64 0] 3)) := ⟨World.alloc_heap_new _ _, S.size, by omega⟩
  have q := median8 blk len cap i j k w.heap.size 0 d w0 _ hlen (S.alloc (.cells #[.int .i64 0] 3)) C0 (by omega) (by omega) (by omega) (by omega) hsz
  have l8 : (8 : Int) ≤ (l : Int) := by omega
  have l50 : ¬ (50 : Int) ≤ (l : Int) := by omega
  have HP := Lib.hid (show (a ≤ i ∧ i < b) ∧ (a ≤ j ∧ j < b) ∧ (a ≤ k ∧ k < b) from by omega)
  clear S C0 hi hj hk hl hlen
  go_enter Try.func93, Try.ntmps93
  go_wp2_with (go_at_call 105; go_must (with_reducible refine q.mono ?_); rintro e w1 ⟨p, s, rfl, h3, h4, S1, C1⟩; have HS := Lib.hid S1; obtain ⟨hcc, hcf⟩ := C1.cell?; have H3 := Lib.hid h3; clear h3 q S1 C1)
  all_goals go_ret2
  all_goals (first | exact ⟨p, 1, ⟨rfl, by have := H3.out; have := HP.out; omega, by have := H3.out; have := HP.out; omega, by omega, HS.out⟩⟩ | exact ⟨p, 2, ⟨rfl, by have := H3.out; have := HP.out; omega, by have := H3.out; have := HP.out; omega, by omega, HS.out⟩⟩ | exact ⟨p, 0, ⟨rfl, by have := H3.out; have := HP.out; omega, by have := H3.out; have := HP.out; omega, by omega, HS.out⟩⟩)
end Go.Proofs.Ythgdanbkngnckaa
namespace Go.Proofs.Ythgdanbkngnckaa
open Go.RowKit Go.Sort

set_option maxHeartbeats 1000000 in
theorem adj8 (blk len cap m c s : Nat) (d : Array UInt8) (w0 w : World) (hlen : d.size = len) (S : S8 w0 blk d w) (C : C8 w0 c s w) (hs : s ≤ 40) (h1 : 1 ≤ m) (hm : m + 1 < len) (hsz : len < 4611686018427387904) :
    Calls Try.prog 104 #[.slice (some ⟨blk, 0, none⟩) len cap, .int .i64 m, .pointer (some ⟨c, 0, none⟩)] w fun e w' => ∃ (p s' : Nat), e = .returned (.int .i64 (p : Int)) ∧ m ≤ p + 1 ∧ p ≤ m + 1 ∧ s' ≤ s + 3 ∧ S8 w0 blk d w' ∧ C8 w0 c s' w' := by
  obtain ⟨m0, hm0⟩ : ∃ m0, m = m0 + 1 := ⟨m - 1, by omega⟩
  subst hm0
  have q := median8 blk len cap m0 (m0 + 1) (m0 + 2) c s d w0 w hlen S C hs (by omega) (by omega) (by omega) hsz
  have w1 : IntKind.i64.wrap (m0 : Int) = (m0 : Int) := IntWalk.i64_in _ (by omega)
  have e2 : ((m0 : Int) + 1 + 1) = ((m0 + 2 : Nat) : Int) := by omega
  rw [show ((m0 + 1 : Nat) : Int) = (m0 : Int) + 1 from by omega, show ((m0 + 2 : Nat) : Int) = (m0 : Int) + 2 from by omega] at q
  clear S C hlen
  go_enter Try.func104, Try.ntmps104
  go_wp2_with (go_at_call 105; (with_reducible refine q.mono ?_); rintro e w1 ⟨p, s', rfl, h3, h4, S1, C1⟩; have H3 := Lib.hid h3; have HS := Lib.hid (And.intro S1 (And.intro C1 h4)); clear h3 h4 q S1 C1)
  go_ret
  exact ⟨p, s', rfl, by have := H3.out; omega, by have := H3.out; omega, HS.out.2.2, HS.out.1, HS.out.2.1⟩

set_option maxHeartbeats 2000000 in
theorem pivot8b (blk len cap a b : Nat) (d : Array UInt8) (w0 w : World) (hlen : d.size = len) (S : S8 w0 blk d w) (h50 : a + 50 ≤ b) (hb : b ≤ len) (hsz : len < 4611686018427387904) :
    Calls Try.prog 93 #[.slice (some ⟨blk, 0, none⟩) len cap, .int .i64 a, .int .i64 b] w fun e w' => ∃ p h, Piv w0 blk a b d e w' p h := by
  obtain ⟨l, hl⟩ : ∃ l, l = b - a := ⟨_, rfl⟩
  have el : (b : Int) - (a : Int) = (l : Int) := by omega
  obtain ⟨i, hi⟩ : ∃ i, i = a + l / 4 := ⟨_, rfl⟩
  obtain ⟨j, hj⟩ : ∃ j, j = a + l / 4 * 2 := ⟨_, rfl⟩
  obtain ⟨k, hk⟩ : ∃ k, k = a + l / 4 * 3 := ⟨_, rfl⟩
  have ei : (a : Int) + (l : Int) / 4 = (i : Int) := by omega
  have ej : (a : Int) + (l : Int) / 4 * 2 = (j : Int) := by omega
  have ek : (a : Int) + (l : Int) / 4 * 3 = (k : Int) := by omega
  have hP : (a + 1 ≤ i ∧ i + 1 < b) ∧ (a + 1 ≤ j ∧ j + 1 < b) ∧ (a + 1 ≤ k ∧ k + 1 < b) := by omega
  have C0 : C8 w0 w.heap.size 0 (w.alloc (.cells #[.int .i64 0] 3)) := ⟨World.alloc_heap_new _ _, S.size, by omega⟩
  have S0 := S.alloc (.cells #[.int .i64 0] 3)
  obtain ⟨w1, hw1⟩ : ∃ w1, w1 = w.alloc (.cells #[.int .i64 0] 3) := ⟨_, rfl⟩
  rw [← hw1] at C0 S0
  have QA := Lib.hid (fun (m s : Nat) (W : World) (S : S8 w0 blk d W) (C : C8 w0 w.heap.size s W) (h0 : s ≤ 40) (h1 : 1 ≤ m) (h2 : m + 1 < len) => adj8 blk len cap m w.heap.size s d w0 W hlen S C h0 h1 h2 hsz)
  have QM := Lib.hid (fun (i j k s : Nat) (W : World) (S : S8 w0 blk d W) (C : C8 w0 w.heap.size s W) (h0 : s ≤ 40) (h1 : i < len) (h2 : j < len) (h3 : k < len) => median8 blk len cap i j k w.heap.size s d w0 W hlen S C h0 h1 h2 h3 hsz)
  have l8 : (8 : Int) ≤ (l : Int) := by omega
  have l50 : (50 : Int) ≤ (l : Int) := by omega
  have HP := Lib.hid hP
  have q1 := QA.out i 0 w1 S0 C0 (by omega) (by omega) (by omega)
  have HBl := Lib.hid hb
  clear S C0 S0 hi hj hk hl hlen hP h50
  go_enter Try.func93, Try.ntmps93
  go_wp2_with (first
    | (rw [← hw1]; go_at_call 104; (with_reducible refine q1.mono ?_); rintro e w2 ⟨p1, s1, rfl, h1, h2, h3, S1, C1⟩; have H1 := Lib.hid (And.intro h1 (And.intro h2 h3)); have q2 := QA.out j s1 w2 S1 C1 (by omega) (by have := HP.out; omega) (by have := HP.out; omega); clear q1 h1 h2 h3 S1 C1)
    | (go_at_call 104; (with_reducible refine q2.mono ?_); rintro e w3 ⟨p2, s2, rfl, h1, h2, h3, S1, C1⟩; have H2 := Lib.hid (And.intro h1 (And.intro h2 h3)); have q3 := QA.out k s2 w3 S1 C1 (by have := H1.out; omega) (by have := HP.out; omega) (by have := HP.out; omega); clear q2 h1 h2 h3 S1 C1)
    | (go_at_call 104; (with_reducible refine q3.mono ?_); rintro e w4 ⟨p3, s3, rfl, h1, h2, h3, S1, C1⟩; have H3 := Lib.hid (And.intro h1 (And.intro h2 h3)); have q4 := QM.out p1 p2 p3 s3 w4 S1 C1 (by have := H1.out; have := H2.out; omega) (by have := HP.out; have := H1.out; have := HBl.out; omega) (by have := HP.out; have := H2.out; have := HBl.out; omega) (by have := HP.out; have := H3.out; have := HBl.out; omega); clear q3 h1 h2 h3 S1 C1)
    | (go_at_call 105; (with_reducible refine q4.mono ?_); rintro e w5 ⟨p, s, rfl, h3, h4, S1, C1⟩; have HS := Lib.hid S1; obtain ⟨hcc, hcf⟩ := C1.cell?; have H5 := Lib.hid h3; clear h3 q4 S1 C1))
  all_goals go_ret2
  all_goals (have e5 := H5.out; have e1 := H1.out; have e2 := H2.out; have e3 := H3.out; have eP := HP.out)
  all_goals (first | exact ⟨p, 1, ⟨rfl, by omega, by omega, by omega, HS.out⟩⟩ | exact ⟨p, 2, ⟨rfl, by omega, by omega, by omega, HS.out⟩⟩ | exact ⟨p, 0, ⟨rfl, by omega, by omega, by omega, HS.out⟩⟩)
end Go.Proofs.Ythgdanbkngnckaa

/-
  Rows of numbers in memory; dist's change, slices.Min at them, dist's least, dist.Row.
-/
import Derived.Test.YthgdanbkngnckaaT01
import Derived.Test.YthgdanbkngnckaaT02
import Derived.Test.YthgdanbkngnckaaT04
import Derived.OwnWalk
set_option linter.unusedVariables false
set_option linter.unusedSimpArgs false
namespace Go.Proofs.Ythgdanbkngnckaa
open Go.RowKit Go.Shelf

theorem Below.drew' {n : Nat} {a b : World} (h : Below n a b) : Below n a b.drew := Below.drew h
theorem below_alloc (w : World) (o : Obj) : Below w.heap.size w (w.alloc o) := (Below.refl _ w).alloc (Nat.le_refl _) _
theorem below_drew (w : World) : Below w.heap.size w w.drew := Below.drew (Below.refl _ w)

def nats (l : List Nat) : List Value := l.map fun (n : Nat) => Value.int .i64 (n : Int)
theorem nats_length (l : List Nat) : (nats l).length = l.length := by simp [nats]
theorem nats_at {l : List Nat} {i : Nat} (h : i < l.length) : (nats l)[i]? = some (.int .i64 ((l.getD i 0 : Nat) : Int)) := by simp [nats, h]

/-- A row of numbers that is read. -/
def Ints (w : World) (v : Value) (l : List Nat) : Prop :=
  ∃ ad c, v = .slice ad l.length c ∧ ∀ i, i < l.length → ∃ b o, ad = some ⟨b, o, none⟩ ∧ w.cell? ⟨b, o + i, none⟩ = some (.int .i64 ((l.getD i 0 : Nat) : Int))
theorem Ints.below {w w' : World} {v : Value} {l : List Nat} (h : Ints w v l) (hb : Below w.heap.size w w') : Ints w' v l := by
  obtain ⟨ad, c, hv, hc⟩ := h
  refine ⟨ad, c, hv, fun i hi => ?_⟩
  obtain ⟨b, o, ha, hci⟩ := hc i hi
  refine ⟨b, o, ha, ?_⟩
  rw [hb.cell (p := ⟨b, o + i, none⟩) (block_lt_of_cell hci)]
  exact hci
theorem Ints.some {w : World} {v : Value} {l : List Nat} (h : Ints w v l) (hl : 0 < l.length) : ∃ b o c, v = .slice (some ⟨b, o, none⟩) l.length c ∧ ∀ i, i < l.length → w.cell? ⟨b, o + i, none⟩ = some (.int .i64 ((l.getD i 0 : Nat) : Int)) := by
  obtain ⟨ad, c, rfl, hc⟩ := h
  obtain ⟨b, o, rfl, _⟩ := hc 0 hl
  refine ⟨b, o, c, rfl, fun i hi => ?_⟩
  obtain ⟨b', o', e, h⟩ := hc i hi
  injection e with e
  injection e with e1 e2
  subst e1 e2
  exact h
theorem ints_of_owns {w : World} {base : Nat} {v : Value} {l : List Nat} (h : w.ownsRow base 3 1 v l.length (nats l)) : Ints w v l := by
  rcases h.2 with ⟨rfl, h0⟩ | ⟨g, cap, cur, rfl, _, hg, _, _, _, ht⟩
  · exact ⟨none, 0, by rw [h0], fun i hi => by omega⟩
  · refine ⟨_, cap, rfl, fun i hi => ⟨g, 0, rfl, ?_⟩⟩
    have hx := nats_at hi
    rw [← ht, List.getElem?_take] at hx
    split at hx
    · rw [Array.getElem?_toList] at hx
      simp [World.cell?, hg, hx]
    · cases hx

theorem iInt : (Try.prog.info? 3).map (fun i => (i.zero, i.size, i.bytes)) = some (some (.int .i64 0), 1, 8) := by kernel_rfl

theorem change_any (x y : UInt8) (w : World) : Calls Try.prog 73 #[.int .u8 (x.toNat : Int), .int .u8 (y.toNat : Int)] w fun e w' => e = .returned (.int .i64 ((ch x y : Nat) : Int)) ∧ w = w' := by
  by_cases h : x = y
  · subst h
    rw [ch_self]
    go_enter Try.func73, Try.ntmps73
    go_wp2
    go_ret
    exact ⟨rfl, rfl⟩
  · have hc : ch x y = 1 := by unfold ch; rw [if_neg h]
    have hn : x.toNat ≠ y.toNat := fun e => h (UInt8.toNat_inj.1 e)
    have e1 : ((x.toNat : Int) == (y.toNat : Int)) = false := by simp; omega
    have e2 : (x.toNat == y.toNat) = false := by simp; omega
    rw [hc]
    clear h hc
    go_enter Try.func73, Try.ntmps73
    go_wp2
    go_ret
    exact ⟨rfl, rfl⟩

theorem foldl_take_succ (l : List Nat) (x : Nat) (k : Nat) (h : k < l.length) : (l.take (k + 1)).foldl min x = min ((l.take k).foldl min x) (l.getD k 0) := by
  rw [List.take_succ_eq_append_getElem h, List.foldl_append]
  simp [List.getD, h]

set_option maxRecDepth 100000 in
theorem min_any {l : List Nat} {v : Value} {w : World} (h : Ints w v l) (hl : 0 < l.length) (hz : l.length ≤ 1000000) :
    Calls Try.prog 59 #[v] w fun e w' => e = .returned (.int .i64 ((minT l : Nat) : Int)) ∧ w = w' := by
  obtain ⟨b, o, c, rfl, hc⟩ := h.some hl
  obtain ⟨x, r, rfl⟩ : ∃ x r, l = x :: r := by
    cases l with
    | nil => simp at hl
    | cons x r => exact ⟨x, r, rfl⟩
  obtain ⟨n, hn⟩ : ∃ n, n = r.length := ⟨_, rfl⟩
  have c0 : w.cell? ⟨b, o, none⟩ = some (.int .i64 (x : Int)) := hc 0 hl
  have hcs : Hid (∀ k, k < n → w.cell? ⟨b, o + (k + 1), none⟩ = some (.int .i64 ((r.getD k 0 : Nat) : Int))) := Lib.hid fun k hk => hc (k + 1) (by simp; omega)
  simp only [List.length_cons] at hz ⊢
  rw [← hn] at hz ⊢
  have HN := Lib.hid hn
  clear hc hl hn h
  have d0 : decide ((n : Int) + 1 < 1) = false := by simp; omega
  have d1 : decide (n + 1 < 1) = false := by simp
  go_enter Try.func59, Try.ntmps59
  go_wp2
  go_loop [3, 4] (fun m i => ∃ k : Nat, k ≤ n ∧ i = .int .i64 ((k + 1 : Nat) : Int) ∧ m = .int .i64 (((r.take k).foldl min x : Nat) : Int)) (fun _ i => n + 1 - (intOf i).toNat)
  case atStart => exact ⟨0, Nat.zero_le _, rfl, rfl⟩
  case round =>
    obtain ⟨k, hk, rfl, rfl⟩ := hrel
    by_cases hlt : k < n
    · have hck := hcs.out k hlt
      have e1 : decide ((((k + 1 : Nat) : Nat) : Int) < ((n + 1 : Nat) : Int)) = true := by simp; omega
      have e2 : decide (k + 1 < n + 1) = true := by simp; omega
      have e3 : decide (k < n) = true := by simp; omega
      have hf := foldl_take_succ r x k (by rw [← HN.out]; exact hlt)
      obtain ⟨y, hy⟩ : ∃ y, r.getD k 0 = y := ⟨_, rfl⟩
      rw [hy] at hck hf
      obtain ⟨z, hz⟩ : ∃ z, (r.take k).foldl min x = z := ⟨_, rfl⟩
      rw [hz] at hf ⊢
      have HF := Lib.hid hf
      clear hf hy hz
      go_wp2
      all_goals
        go_round
        case rel => exact ⟨k + 1, by omega, by go_num, by rw [HF.out]; first | rfl | (congr 2; omega) | go_num⟩
        case measure => simp [intOf]; omega
    · have hkn : k = n := by omega
      subst hkn
      have e1 : decide ((((k + 1 : Nat) : Nat) : Int) < ((k + 1 : Nat) : Int)) = false := by simp
      clear hlt
      go_wp2
      go_ret
      refine ⟨?_, rfl⟩
      rw [HN.out, List.take_length]
      rfl

theorem least_any {l : List Nat} {v : Value} {w : World} (h : Ints w v l) (hl : 0 < l.length) (hz : l.length ≤ 1000000) :
    Calls Try.prog 40 #[v] w fun e w' => e = .returned (.int .i64 ((minT l : Nat) : Int)) ∧ w = w' := by
  have hm := min_any h hl hz
  obtain ⟨b, o, c, rfl, -⟩ := h.some hl
  have HM := Lib.hid hm
  clear hm h
  go_enter Try.func40, Try.ntmps40
  go_wp2_with (go_at_call 59; (with_reducible refine HM.out.mono ?_); rintro e w' ⟨rfl, rfl⟩)
  go_ret
  exact ⟨rfl, rfl⟩

/-- The row that is being made: its first k numbers are there. -/
def rowK (n k : Nat) : List Nat := (List.range n).map fun i => if i < k then i else 0
theorem rowK_length (n k : Nat) : (rowK n k).length = n := by simp [rowK]
theorem rowK_zero (n : Nat) : rowK n 0 = List.replicate n 0 := by
  unfold rowK
  apply List.ext_getElem
  · simp
  · intro i h1 h2
    simp
theorem rowK_all (n : Nat) : rowK n n = List.range n := by
  unfold rowK
  conv => rhs; rw [← List.map_id (List.range n)]
  apply List.map_congr_left
  intro i hi
  simp [List.mem_range.1 hi]
theorem rowK_set (n k : Nat) : (nats (rowK n k)).set k (.int .i64 (k : Int)) = nats (rowK n (k + 1)) := by
  unfold nats rowK
  apply List.ext_getElem
  · simp
  · intro i h1 h2
    simp only [List.length_set, List.length_map, List.length_range] at h1
    by_cases e : k = i
    · subst e
      simp
    · rw [List.getElem_set_ne e]
      simp only [List.getElem_map, List.getElem_range]
      by_cases h : i < k
      · rw [if_pos h, if_pos (by omega)]
      · rw [if_neg h, if_neg (by omega)]

set_option maxHeartbeats 1000000 in
set_option maxRecDepth 100000 in
theorem row_any (q : ByteArray) (w : World) (hq : q.size ≤ 1000000) :
    Calls Try.prog 57 #[.string q] w fun e w' => ∃ v, e = .returned v ∧ w'.ownsRow w.heap.size 3 1 v (q.size + 1) (nats (List.range (q.size + 1))) ∧ Below w.heap.size w w' := by
  obtain ⟨i0, hi, hz0, hz1, hz2⟩ := info_parts iInt
  obtain ⟨n, hn⟩ : ∃ n, n = q.size := ⟨_, rfl⟩
  rw [← hn] at hq ⊢
  have HN := Lib.hid hn
  have HI := Lib.hid (And.intro hi (And.intro hz0 (And.intro hz1 hz2)))
  have es : (q.size : Int) = (n : Int) := by rw [hn]
  clear hi hz0 hz1 hz2 hn
  go_enter Try.func57, Try.ntmps57
  go_wp2_with ((refine wpList_make_full _ rfl _ _ 57 rfl w.heap.size 3 i0 (.int .i64 0) 1 Try.underlying57 HI.out.1 HI.out.2.1 HI.out.2.2.1 .i64 .i64 _ _ (n + 1) rfl rfl (by rw [← es]; go_num) (by rw [← es]; go_num) (by rw [HI.out.2.2.2]; omega) (by unfold maxLen; omega) (Nat.le_refl _) ?_); intro w1 hr hg)
  have hgz := hg.size
  have hb1 : Hid (Below w.heap.size w w1) := Lib.hid ((Below.refl _ w).grown hg (Nat.le_refl _) (fun k e => by cases e))
  have hr1 : Hid (w1.ownsRow w.heap.size 3 1 (.slice (some ⟨w.heap.size, 0, none⟩) (n + 1) (n + 1)) (n + 1) (nats (rowK (n + 1) 0))) := Lib.hid (by
    rw [rowK_zero]
    have e : (madeCells (Value.int .i64 0).cells ((n + 1) * 1)).toList = nats (List.replicate (n + 1) 0) := by
      rw [show (Value.int .i64 0).cells = #[.int .i64 0] from rfl, toList_madeCells_one, Nat.mul_one]
      simp [nats]
    rw [e] at hr
    exact hr)
  clear hr hg
  obtain ⟨g, hgw⟩ : ∃ g, g = w.heap.size := ⟨_, rfl⟩
  have HG := Lib.hid hgw
  rw [← hgw] at hr1 ⊢
  clear hgw
  go_wp2
  go_loopw [11] (fun s11 wr => ∃ k : Nat, k ≤ n + 1 ∧ s11 = .int .i64 (k : Int) ∧ Hid (wr.ownsRow g 3 1 (.slice (some ⟨g, 0, none⟩) (n + 1) (n + 1)) (n + 1) (nats (rowK (n + 1) k))) ∧ Hid (Below w.heap.size w wr)) (fun s11 _ => n + 1 - (intOf s11).toNat)
  case atStart => exact ⟨0, Nat.zero_le _, rfl, hr1, hb1⟩
  case round =>
    obtain ⟨k, hk, rfl, hr, hb⟩ := hrel
    by_cases hlt : k < n + 1
    · have e1 : decide ((k : Int) < ((n + 1 : Nat) : Int)) = true := by simp; omega
      have e2 : decide (k < n + 1) = true := by simp; omega
      have kc : wr.cell? ⟨g, k, none⟩ = some (.int .i64 (((rowK (n + 1) k).getD k 0 : Nat) : Int)) := by
        rw [hr.out.cellAt k (by omega), nats_at (by rw [rowK_length]; exact hlt)]
      have kf := hr.out.frozenAt k
      have HS := Lib.hid (hr.out.stored k (.int .i64 (k : Int)))
      generalize (rowK (n + 1) k).getD k 0 = y at kc
      go_wp2
      go_roundw
      case rel => exact ⟨k + 1, by omega, by go_num, Lib.hid (by rw [← rowK_set]; exact HS.out.1), Lib.hid (hb.out.grown HS.out.2 hb.out.size (fun k e => by cases e; rw [HG.out]; exact Nat.le_refl _))⟩
      case measure => simp [intOf]; omega
    · have hkn : k = n + 1 := by omega
      have e1 : decide ((k : Int) < ((n + 1 : Nat) : Int)) = false := by simp; omega
      have e2 : decide (k < n + 1) = false := by simp; omega
      have HK := Lib.hid hkn
      clear hkn
      go_wp2
      go_ret
      have h1 := hr.out
      have h2 := hb.out
      rw [HK.out, rowK_all] at h1
      have e := HG.out
      subst e
      exact ⟨_, rfl, h1, h2⟩
end Go.Proofs.Ythgdanbkngnckaa

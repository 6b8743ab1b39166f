/-
  lev's New, Start, Read. dist.Next. dist.rows: the iterator of a text's rows, whatever loop body it is ranged over with. Boxes laid one behind the other; rows beside an iterator's block. (dist.Of itself is not in this program.) The document's table of distances. The document's Of, Behind, Script. dist.Within: a range over the rows that is left where a row's least number is too much.
-/
import Derived.Test.YthgdanbkngnckaaT09
import Derived.Test.YthgdanbkngnckaaT10
import Derived.Test.YthgdanbkngnckaaT08
import Derived.RegionTactic
import Derived.ChangeAlike
import Derived.BigRegion
import Derived.Deep.CutRange
import Derived.Laws.EntriesVeiled
import Derived.Test.YthgdanbkngnckaaT04
import Derived.Test.YthgdanbkngnckaaT01
set_option linter.unusedVariables false
set_option linter.unusedSimpArgs false
namespace Go.Proofs.Ythgdanbkngnckaa
open Go.RowKit Go.Shelf Said

theorem nums_of {q : List UInt8} {k : Nat} {r : List Nat} (h : IsL q k r) (hk : k ≤ 3) : nums (bin r) = r := nums_bin fun i => is_lt h (by omega) i

/-- All bytes of some texts, one behind the other. -/
def allB (l : List ByteArray) : List UInt8 := l.flatMap fun t => t.data.toList
theorem allB_take_succ (l : List ByteArray) (j : Nat) (h : j < l.length) : allB (l.take (j + 1)) = allB (l.take j) ++ (l.getD j ⟨#[]⟩).data.toList := by
  unfold allB
  rw [List.take_succ_eq_append_getElem h, List.flatMap_append]
  simp [List.getD, h]

set_option maxHeartbeats 2000000 in
set_option maxRecDepth 100000 in
theorem read_any {q s : ByteArray} {p k : Nat} {v : Value} {l : List ByteArray} {w : World} (hA : AutoAt w p q k) (hk : k ≤ 3) (hq : q.size ≤ 10000) (hs : IsL q.data.toList k (nums s)) (hl : Strs w v l) (hz : l.length ≤ 1000) (hb : ∀ t ∈ l, t.size ≤ 1000000) :
    Calls Try.prog 18 #[.pointer (some ⟨p, 0, none⟩), .string s, v] w fun e w' => e = .returned (.string (bin (readL q.data.toList k (nums s) (allB l)))) ∧ Below w.heap.size w w' := by
  have hsz : s.size ≤ 1000000000000 := by have := hs.1; rw [nums_length, ba_length] at this; omega
  have hh := has_any (s := s) hA hk (by omega) hsz
  rw [isS_iff.2 hs] at hh
  have HH := Lib.hid hh
  have HC : Hid (∀ W r, Below w.heap.size w W → IsL q.data.toList k r → Calls Try.prog 36 #[.pointer (some ⟨p, 0, none⟩), .string (bin r)] W fun e w' => e = .returned (.bool (decide (minT r ≤ k))) ∧ Below w.heap.size w w') := Lib.hid fun W r hb hr => by
    have hn := nums_of hr hk
    have := can_lev (s := bin r) (hA.below hb) hk (by rw [hn]; exact hr) (by omega)
    rw [hn] at this
    exact this.mono fun e w' h => ⟨h.1, Below.next hb h.2⟩
  have HS : Hid (∀ W r (c : UInt8), Below w.heap.size w W → IsL q.data.toList k r → Calls Try.prog 34 #[.pointer (some ⟨p, 0, none⟩), .string (bin r), .int .u8 (c.toNat : Int)] W fun e w' => e = .returned (.string (bin (stepL q.data.toList k r c))) ∧ Below w.heap.size w w') := Lib.hid fun W r c hb hr => by
    have hn := nums_of hr hk
    have := step_any (s := bin r) (hA.below hb) hk c (by omega) (by rw [hn]; exact hr)
    rw [hn] at this
    exact this.mono fun e w' h => ⟨h.1, Below.next hb h.2⟩
  have HI := Lib.hid hs
  obtain ⟨r0, hr0⟩ : ∃ r0, nums s = r0 := ⟨_, rfl⟩
  have hsr : s = bin r0 := by rw [← hr0, bin_nums]
  rw [hr0] at HI ⊢
  obtain ⟨ad, cp, rfl, hcs⟩ := hl
  have HB := Lib.hid hb
  obtain ⟨n, hn⟩ : ∃ n, l.length = n := ⟨_, rfl⟩
  rw [hn] at hcs hz ⊢
  have HL := Lib.hid hcs
  have HN := Lib.hid hn
  have HSR := Lib.hid hsr
  clear hA hs hh hb hn hr0 hsr hsz hcs
  go_enter Try.func18, Try.ntmps18
  go_wp2_with (go_at_call 33; (with_reducible refine HH.out.mono ?_); rintro e w' ⟨rfl, hW⟩)
  have HW := Lib.hid hW
  clear hW
  go_loopw [1, 16] (fun s1 s16 wr => ∃ (j : Nat) (r : List Nat), j ≤ n ∧ s16 = .int .i64 (j : Int) ∧ s1 = .string (bin r) ∧ Hid (IsL q.data.toList k r ∧ r = readL q.data.toList k r0 (allB (l.take j)) ∧ Below w.heap.size w wr)) (fun _ s16 _ => n - (intOf s16).toNat)
  case atStart => exact ⟨0, r0, Nat.zero_le _, rfl, by rw [HSR.out], Lib.hid ⟨HI.out, rfl, HW.out⟩⟩
  case round =>
    obtain ⟨j, r, hj, rfl, rfl, HR⟩ := hrel
    by_cases hlt : j < n
    · obtain ⟨t, ht⟩ : ∃ t, l.getD j ⟨#[]⟩ = t := ⟨_, rfl⟩
      obtain ⟨b, o, rfl, hcell⟩ := HL.out j hlt
      rw [ht] at hcell
      have hc1 : wr.cell? ⟨b, o + j, none⟩ = some (.string t) := by rw [HR.out.2.2.cell (p := ⟨b, o + j, none⟩) (block_lt_of_cell hcell)]; exact hcell
      have htz : t.size ≤ 1000000 := by
        rw [← ht]
        have hj' : j < l.length := by rw [HN.out]; exact hlt
        refine HB.out _ ?_
        simp [List.getD, hj']
      have htk : allB (l.take (j + 1)) = allB (l.take j) ++ t.data.toList := by rw [allB_take_succ l j (by rw [HN.out]; exact hlt), ht]
      have HT := Lib.hid htk
      have e1 : decide ((j : Int) < (n : Int)) = true := by simp; omega
      have e2 : decide (j < n) = true := by simp; omega
      have il : (j : Int) < (n : Int) := by omega
      clear ht htk hcell
      go_wp2
      obtain ⟨wz, hwz⟩ : ∃ wz, wz = wr := ⟨_, rfl⟩
      subst hwz
      go_loopw [1, 9] (fun s1 s9 wr => ∃ (i : Nat) (r' : List Nat), i ≤ t.size ∧ s9 = .int .i64 (i : Int) ∧ s1 = .string (bin r') ∧ Hid (IsL q.data.toList k r' ∧ r' = readL q.data.toList k r (t.data.toList.take i) ∧ Below w.heap.size w wr)) (fun _ s9 _ => t.size - (intOf s9).toNat)
      case atStart => exact ⟨0, r, Nat.zero_le _, rfl, rfl, Lib.hid ⟨HR.out.1, rfl, HR.out.2.2⟩⟩
      case round =>
        obtain ⟨i, r', hi, rfl, rfl, HQ⟩ := hrel
        by_cases hit : i < t.size
        · have e3 : decide ((i : Int) < (t.size : Int)) = true := by simp; omega
          have e4 : decide (i < t.size) = true := by simp; omega
          have il2 : (i : Int) < (t.size : Int) := by omega
          have QC := Lib.hid (HC.out wr r' HQ.out.2.2 HQ.out.1)
          by_cases hdead : minT r' ≤ k
          · have e5 : decide (minT r' ≤ k) = true := by simp; exact hdead
            rw [e5] at QC
            clear hdead e5
            go_wp2_with (first
              | (go_at_call 36; (with_reducible refine QC.out.mono ?_); rintro e w' ⟨rfl, hB1⟩; have HB1 := Lib.hid hB1; clear hB1)
              | (go_at_call 34; (with_reducible refine (HS.out _ r' _ HB1.out HQ.out.1).mono ?_); rintro e w' ⟨rfl, hB2⟩; have HB2 := Lib.hid hB2; clear hB2))
            go_roundw
            case rel => exact ⟨i + 1, _, by omega, by go_num, rfl, Lib.hid ⟨stepL_is _ _ _ _, by rw [take_snoc t i hit, readL_snoc, ← HQ.out.2.1], HB2.out⟩⟩
            case measure => simp [intOf]; omega
          · have e5 : decide (minT r' ≤ k) = false := by simp; omega
            rw [e5] at QC
            have HD := Lib.hid hdead
            clear hdead e5
            go_wp2_with (go_at_call 36; (with_reducible refine QC.out.mono ?_); rintro e w' ⟨rfl, hB1⟩; have HB1 := Lib.hid hB1; clear hB1)
            have hrr : r' = readL q.data.toList k r t.data.toList := by
              have e := HQ.out.2.1
              conv => rhs; rw [← List.take_append_drop i t.data.toList, readL_append, ← e]
              exact (dead_read HQ.out.1 (by have := HD.out; omega) _).symm
            have HRR : Hid (r' = readL q.data.toList k r0 (allB (l.take (j + 1)))) := Lib.hid (by rw [HT.out, readL_append, ← HR.out.2.1]; exact hrr)
            clear hrr
            go_roundw
            case rel => exact ⟨j + 1, r', by omega, by go_num, rfl, Lib.hid ⟨HQ.out.1, HRR.out, HB1.out⟩⟩
            case measure => simp [intOf]; omega
        · have e3 : decide ((i : Int) < (t.size : Int)) = false := by simp; omega
          have e4 : decide (i < t.size) = false := by simp; omega
          have hrr : r' = readL q.data.toList k r t.data.toList := by
            have e := HQ.out.2.1
            rw [show i = t.size by omega, take_all] at e
            exact e
          have HRR : Hid (r' = readL q.data.toList k r0 (allB (l.take (j + 1)))) := Lib.hid (by rw [HT.out, readL_append, ← HR.out.2.1]; exact hrr)
          clear hrr hit
          go_wp2
          go_roundw
          case rel => exact ⟨j + 1, r', by omega, by go_num, rfl, Lib.hid ⟨HQ.out.1, HRR.out, HQ.out.2.2⟩⟩
          case measure => simp [intOf]; omega
    · have hjn : j = n := by omega
      have e1 : decide ((j : Int) < (n : Int)) = false := by simp; omega
      have e2 : decide (j < n) = false := by simp; omega
      have hrr : r = readL q.data.toList k r0 (allB l) := by
        have e := HR.out.2.1
        rw [hjn, ← HN.out, List.take_length] at e
        exact e
      have HRR := Lib.hid hrr
      clear hjn hlt hrr
      go_wp2
      go_ret
      exact ⟨by rw [← HRR.out]; rfl, HR.out.2.2⟩

set_option maxRecDepth 100000 in
theorem read_not {q s : ByteArray} {p k : Nat} {v : Value} {w : World} (hA : AutoAt w p q k) (hk : k ≤ 3) (hq : q.size ≤ 10000) (hs : ¬ IsL q.data.toList k (nums s)) (hz : s.size ≤ 1000000000000) :
    Calls Try.prog 18 #[.pointer (some ⟨p, 0, none⟩), .string s, v] w fun e w' => e = .returned (.string ⟨#[]⟩) ∧ Below w.heap.size w w' := by
  have hh := has_any (s := s) hA hk (by omega) hz
  rw [show isS q k s = false by simpa using fun h => hs (isS_iff.1 h)] at hh
  have HH := Lib.hid hh
  clear hA hs hh
  go_enter Try.func18, Try.ntmps18
  go_wp2_with (go_at_call 33; (with_reducible refine HH.out.mono ?_); rintro e w' ⟨rfl, hW⟩; replace hW := Lib.hid hW)
  go_ret
  exact ⟨rfl, hW.out⟩

/-! ### New -/
def mayB (q : ByteArray) (k : Int) : Bool := decide (q.size ≤ 255 ∧ 0 ≤ k ∧ k ≤ 3)

set_option maxRecDepth 100000 in
theorem new_any (q : ByteArray) (k : Nat) (w : World) (hq : q.size ≤ 255) (hk : k ≤ 3) :
    Calls Try.prog 10 #[.string q, .int .i64 (k : Int)] w fun e w' => e = .returned (.pointer (some ⟨w.heap.size, 0, none⟩)) ∧ AutoAt w' w.heap.size q k ∧ Below w.heap.size w w' ∧ w.heap.size < w'.heap.size := by
  have e1 : decide ((q.size : Int) > 255) = false := by simp; omega
  have e2 : decide (255 < q.size) = false := by simp; omega
  have e3 : decide ((k : Int) < 0) = false := by simp
  have e4 : decide ((k : Int) > 3) = false := by simp; omega
  have e5 : decide (3 < k) = false := by simp; omega
  have e6 : IntKind.u8.wrap (k : Int) = (k : Int) := IntWalk.u8_in _ (by omega)
  have H : Hid (AutoAt (w.alloc (.cells #[.string q, .int .u8 (k : Int)] 54)) w.heap.size q k ∧ Below w.heap.size w (w.alloc (.cells #[.string q, .int .u8 (k : Int)] 54)) ∧ w.heap.size < (w.alloc (.cells #[.string q, .int .u8 (k : Int)] 54)).heap.size) :=
    Lib.hid ⟨⟨by simp [go_sem], by simp [go_sem]⟩, (Below.refl _ w).alloc (Nat.le_refl _) _, by simp⟩
  clear hq hk
  go_enter Try.func10, Try.ntmps10
  go_wp2
  go_ret
  exact ⟨rfl, H.out⟩

set_option maxRecDepth 100000 in
theorem new_not (q : ByteArray) (k : Int) (w : World) (h : mayB q k = false) (hk : -1000 ≤ k ∧ k ≤ 1000) (hq : q.size ≤ 1000000) :
    Calls Try.prog 10 #[.string q, .int .i64 k] w fun e w' => e = .returned (.pointer none) ∧ w = w' := by
  have hh : ¬ (q.size ≤ 255 ∧ 0 ≤ k ∧ k ≤ 3) := by simpa [mayB] using h
  clear h
  by_cases h1 : q.size ≤ 255
  · have e1 : decide ((q.size : Int) > 255) = false := by simp; omega
    have e2 : decide (255 < q.size) = false := by simp; omega
    by_cases h2 : k < 0
    · have e3 : decide (k < 0) = true := by simp; omega
      clear hh h1 hk
      go_enter Try.func10, Try.ntmps10
      go_wp2
      go_ret
      exact ⟨rfl, rfl⟩
    · have e3 : decide (k < 0) = false := by simp; omega
      have e4 : decide (k > 3) = true := by simp; omega
      have e5 : decide (3 < k) = true := by simp; omega
      clear hh h1 h2 hk
      go_enter Try.func10, Try.ntmps10
      go_wp2
      go_ret
      exact ⟨rfl, rfl⟩
  · have e1 : decide ((q.size : Int) > 255) = true := by simp; omega
    have e2 : decide (255 < q.size) = true := by simp; omega
    clear hh h1 hk
    go_enter Try.func10, Try.ntmps10
    go_wp2
    go_ret
    exact ⟨rfl, rfl⟩

/-! ### Start -/
/-- The row that is being made. -/
def saK (n k j : Nat) : List Nat := (List.range n).map fun i => if i < j then cap k i else 0
theorem saK_length (n k j : Nat) : (saK n k j).length = n := by simp [saK]
theorem saK_zero (n k : Nat) : List.replicate n 0 = saK n k 0 := by
  unfold saK
  apply List.ext_getElem
  · simp
  · intro i h1 h2
    simp
theorem saK_set (n k j : Nat) : (saK n k j).set j (cap k j) = saK n k (j + 1) := by
  unfold saK
  apply List.ext_getElem
  · simp
  · intro i h1 h2
    simp only [List.length_set, List.length_map, List.length_range] at h1
    by_cases e : j = i
    · subst e
      simp
    · rw [List.getElem_set_ne e]
      simp only [List.getElem_map, List.getElem_range]
      by_cases h : i < j
      · rw [if_pos h, if_pos (by omega)]
      · rw [if_neg h, if_neg (by omega)]
theorem saK_all (q : List UInt8) (k : Nat) : saK (q.length + 1) k (q.length + 1) = startL q k := by
  rw [startL_map]
  unfold saK
  apply List.map_congr_left
  intro i hi
  rw [if_pos (List.mem_range.1 hi)]

structure SaI (w : World) (g n : Nat) (t : List Nat) (W : World) : Prop where
  row : W.ownsRow w.heap.size 5 1 (.slice (some ⟨g, 0, none⟩) n n) n (u8s t)
  bel : Below w.heap.size w W
  hg : w.heap.size ≤ g
theorem SaI.store {w : World} {g n : Nat} {t : List Nat} {W : World} (h : SaI w g n t W) (i x : Nat) : SaI w g n (t.set i x) (W.setCell ⟨g, i, none⟩ (.int .u8 (x : Int))) := by
  obtain ⟨s1, s2⟩ := h.row.stored i (.int .u8 (x : Int))
  rw [u8s_set] at s1
  exact ⟨s1, h.bel.grown s2 h.bel.size (fun k e => by cases e; exact h.hg), h.hg⟩

set_option maxHeartbeats 2000000 in
set_option maxRecDepth 100000 in
theorem start_any {q : ByteArray} {p k : Nat} {w : World} (hA : AutoAt w p q k) (hk : k ≤ 3) (hq : q.size ≤ 255) :
    Calls Try.prog 13 #[.pointer (some ⟨p, 0, none⟩)] w fun e w' => e = .returned (.string (bin (startL q.data.toList k))) ∧ Below w.heap.size w w' := by
  obtain ⟨i0, hi, hz0, hz1, hz2⟩ := info_parts i5
  have HI := Lib.hid (And.intro hi (And.intro hz0 (And.intro hz1 hz2)))
  have HA := Lib.hid hA
  have c0 := hA.1
  obtain ⟨m, hm⟩ : ∃ m, m = q.size + 1 := ⟨_, rfl⟩
  have HQ := Lib.hid hm
  have ew0 : (q.size : Int) + 1 = (m : Int) := by omega
  have ew1 : IntKind.i64.wrap ((q.size : Int) + 1) = (m : Int) := by rw [IntWalk.i64_in _ (by omega)]; omega
  have hm1 : m ≤ 256 := by omega
  clear hi hz0 hz1 hz2 hA hm
  go_enter Try.func13, Try.ntmps13
  go_wp2_with ((refine wpList_make_full _ rfl _ _ 38 rfl w.heap.size 5 i0 (.int .u8 0) 1 Try.underlying38 HI.out.1 HI.out.2.1 HI.out.2.2.1 .i64 .i64 _ _ m rfl rfl (by first | rfl | go_num) (by first | rfl | go_num) (by rw [HI.out.2.2.2]; have := HQ.out; omega) (by unfold maxLen; have := HQ.out; omega) (Nat.le_refl _) ?_); intro w1 hr hg)
  have hb0 : Below w.heap.size w w1 := (Below.refl _ w).grown hg (Nat.le_refl _) (fun k e => by cases e)
  have N0 : Hid (SaI w w.heap.size m (saK m k 0) w1) := Lib.hid (by
    have e : (madeCells (Value.int .u8 0).cells (m * 1)).toList = u8s (List.replicate m 0) := by
      rw [show (Value.int .u8 0).cells = #[.int .u8 0] from rfl, toList_madeCells_one, Nat.mul_one]
      simp [u8s]
    rw [e, saK_zero m k] at hr
    exact ⟨hr, hb0, Nat.le_refl _⟩)
  clear hr hg hb0 ew0 ew1 c0
  obtain ⟨g, hgw⟩ : ∃ g, g = w.heap.size := ⟨_, rfl⟩
  have N1 : Hid (SaI w g m (saK m k 0) w1) := Lib.hid (by rw [hgw]; exact N0.out)
  clear N0
  rw [← hgw]
  clear hgw
  go_loopw [16] (fun s16 wr => ∃ j : Nat, j ≤ m ∧ s16 = .int .i64 (j : Int) ∧ Hid (SaI w g m (saK m k j) wr)) (fun s16 _ => m - (intOf s16).toNat)
  case atStart => exact ⟨0, Nat.zero_le _, rfl, N1⟩
  case round =>
    obtain ⟨j, hj, rfl, HN⟩ := hrel
    by_cases hlt : j < m
    · have e4 : decide ((j : Int) < (m : Int)) = true := by simp; omega
      have e5 : decide (j < m) = true := by simp; omega
      have il : (j : Int) < (m : Int) := by omega
      have w8 : IntKind.u8.wrap (j : Int) = (j : Int) := IntWalk.u8_in _ (by omega)
      have QC := Lib.hid (capped_any (x := j) (HA.out.below HN.out.bel) hk)
      have kc : wr.cell? ⟨g, j, none⟩ = some (.int .u8 (((saK m k j).getD j 0 : Nat) : Int)) := by
        rw [HN.out.row.cellAt j (by omega), u8s_at (by rw [saK_length]; exact hlt)]
      have kf : wr.frozen? ⟨g, j, none⟩ = false := HN.out.row.frozenAt j
      obtain ⟨y, hy⟩ : ∃ y, (saK m k j).getD j 0 = y := ⟨_, rfl⟩
      rw [hy] at kc
      have hset := saK_set m k j
      obtain ⟨z, hz⟩ : ∃ z, cap k j = z := ⟨_, rfl⟩
      rw [hz] at QC hset
      have HSE := Lib.hid hset
      clear hset hz hy
      go_wp2_with (go_at_call 27; (with_reducible refine QC.out.mono ?_); rintro e w' ⟨rfl, rfl⟩)
      have HN9 := Lib.hid (HN.out.store j z)
      go_roundw
      case rel => exact ⟨j + 1, by omega, by go_num, Lib.hid (by have h9 := HN9.out; rw [HSE.out] at h9; exact h9)⟩
      case measure => simp [intOf]; omega
    · have hkn : j = m := by omega
      have e4 : decide ((j : Int) < (m : Int)) = false := by simp; omega
      have e5 : decide (j < m) = false := by simp; omega
      have hcv : (convert 38 32 (.slice (some ⟨g, 0, none⟩) m m)).run Try.prog wr = .ok (.string (bin (startL q.data.toList k))) wr := by
        have N := HN.out.row
        have e : m = q.data.toList.length + 1 := by rw [ba_length]; exact HQ.out
        rw [hkn] at N
        have e2 : saK m k m = startL q.data.toList k := by rw [e, saK_all]
        rw [e2] at N
        have hl := (startL_is q.data.toList k).1
        refine byts_str (byts_of_owns (base := w.heap.size) ?_) (by rw [hl]; omega) (fun i => is_lt (startL_is _ _) (by omega) i) _ Try.underlying32
        rw [hl, ← e]
        exact N
      clear hkn hlt
      go_wp2
      go_ret
      exact ⟨rfl, HN.out.bel⟩
end Go.Proofs.Ythgdanbkngnckaa
namespace Go.Proofs.Ythgdanbkngnckaa
open Go.RowKit Go.Shelf Said

/-- The row that is being made: its numbers up to the place k are there. -/
def nextK (q : List UInt8) (r : List Nat) (c : UInt8) (k : Nat) : List Nat := (List.range (q.length + 1)).map fun i => if i ≤ k then nx q r c i else 0
theorem nextK_length (q : List UInt8) (r : List Nat) (c : UInt8) (k : Nat) : (nextK q r c k).length = q.length + 1 := by simp [nextK]
theorem nextK_at (q : List UInt8) (r : List Nat) (c : UInt8) (k : Nat) (h : k ≤ q.length) : (nextK q r c k).getD k 0 = nx q r c k := by
  unfold nextK
  simp [List.getD, show k < q.length + 1 by omega]
theorem nextK_all (q : List UInt8) (r : List Nat) (c : UInt8) : nextK q r c q.length = nextT q r c := by
  unfold nextK nextT
  apply List.map_congr_left
  intro i hi
  rw [if_pos (by have := List.mem_range.1 hi; omega)]
theorem nextK_set (q : List UInt8) (r : List Nat) (c : UInt8) (k : Nat) : (nextK q r c k).set (k + 1) (nx q r c (k + 1)) = nextK q r c (k + 1) := by
  unfold nextK
  apply List.ext_getElem
  · simp
  · intro i h1 h2
    simp only [List.length_set, List.length_map, List.length_range] at h1
    by_cases e : k + 1 = i
    · subst e
      simp
    · rw [List.getElem_set_ne e]
      simp only [List.getElem_map, List.getElem_range]
      by_cases h : i ≤ k
      · rw [if_pos h, if_pos (by omega)]
      · rw [if_neg h, if_neg (by omega)]
theorem nextK_zero (q : List UInt8) (r : List Nat) (c : UInt8) : (List.replicate (q.length + 1) 0).set 0 (nx q r c 0) = nextK q r c 0 := by
  unfold nextK
  apply List.ext_getElem
  · simp
  · intro i h1 h2
    by_cases e : 0 = i
    · subst e
      simp
    · rw [List.getElem_set_ne e]
      simp
      omega
theorem rep_getD (m i : Nat) : (List.replicate m 0).getD i 0 = 0 := by
  by_cases h : i < m <;> simp [List.getD, h]
theorem nats_set (l : List Nat) (i x : Nat) : (nats l).set i (.int .i64 (x : Int)) = nats (l.set i x) := by simp [nats, List.map_set]

structure NextI (w : World) (rv : Value) (r : List Nat) (q : ByteArray) (c : UInt8) (b1 b2 b3 g b5 n : Nat) (t : List Nat) (W : World) : Prop where
  x1 : Boxed W b1 9 (.string q)
  x2 : Boxed W b2 57 rv
  x3 : Boxed W b3 5 (.int .u8 (c.toNat : Int))
  x5 : Boxed W b5 57 (.slice (some ⟨g, 0, none⟩) n n)
  row : W.ownsRow w.heap.size 3 1 (.slice (some ⟨g, 0, none⟩) n n) n (nats t)
  bel : Below w.heap.size w W
  hg : w.heap.size ≤ g

theorem NextI.below {w : World} {rv : Value} {r : List Nat} {q : ByteArray} {c : UInt8} {b1 b2 b3 g b5 n : Nat} {t : List Nat} {W W' : World} (h : NextI w rv r q c b1 b2 b3 g b5 n t W) (hb : Below W.heap.size W W') : NextI w rv r q c b1 b2 b3 g b5 n t W' := by
  refine ⟨boxed_below h.x1 hb, boxed_below h.x2 hb, boxed_below h.x3 hb, boxed_below h.x5 hb, ?_, h.bel.trans (hb.mono h.bel.size), h.hg⟩
  refine h.row.kept (row := none) ⟨hb.os, hb.tape, hb.output, hb.size, fun k hk _ => hb.block k hk⟩ ?_
  exact .inr (by simp [Value.ownBlock])
theorem NextI.store {w : World} {rv : Value} {r : List Nat} {q : ByteArray} {c : UInt8} {b1 b2 b3 g b5 n : Nat} {t : List Nat} {W : World} (h : NextI w rv r q c b1 b2 b3 g b5 n t W) (i x : Nat) : NextI w rv r q c b1 b2 b3 g b5 n (t.set i x) (W.setCell ⟨g, i, none⟩ (.int .i64 (x : Int))) := by
  obtain ⟨s1, s2⟩ := h.row.stored i (.int .i64 (x : Int))
  have off : ∀ T, 3 ≠ T → OffT W (some g) T := fun T hT => off_cells (B := 0) (T := 3) (fun r e => by
    obtain ⟨h1, h2⟩ := owns_cells h.row r (by rw [← e]; rfl)
    exact ⟨Nat.zero_le _, h2⟩) hT
  rw [nats_set] at s1
  exact ⟨boxed_off h.x1 s2 (off _ (by decide)), boxed_off h.x2 s2 (off _ (by decide)), boxed_off h.x3 s2 (off _ (by decide)), boxed_off h.x5 s2 (off _ (by decide)), s1, h.bel.grown s2 h.bel.size (fun k e => by cases e; exact h.hg), h.hg⟩
theorem NextI.drew {w : World} {rv : Value} {r : List Nat} {q : ByteArray} {c : UInt8} {b1 b2 b3 g b5 n : Nat} {t : List Nat} {W : World} (h : NextI w rv r q c b1 b2 b3 g b5 n t W) : NextI w rv r q c b1 b2 b3 g b5 n t W.drew := h.below (below_drew W)

set_option maxHeartbeats 1000000 in
set_option maxRecDepth 100000 in
theorem next_none {q : ByteArray} {rv : Value} {r : List Nat} {w : World} (h : Ints w rv r) (c : UInt8) (hq : q.size ≤ 1000000) (hr : r.length ≤ 10000000) (hn : r.length ≠ q.size + 1) :
    Calls Try.prog 58 #[.string q, rv, .int .u8 (c.toNat : Int)] w fun e w' => e = .returned (.slice none 0 0) ∧ Below w.heap.size w w' := by
  obtain ⟨ad, cp, rfl, -⟩ := h
  have w0 : IntKind.i64.wrap ((q.size : Int) + 1) = ((q.size + 1 : Nat) : Int) := by rw [IntWalk.i64_in _ (by omega)]; omega
  have e1 : ((r.length : Int) == (q.size : Int) + 1) = false := by simp; omega
  have e2 : ((r.length : Int) != (q.size : Int) + 1) = true := by simp; omega
  have e3 : (r.length == q.size + 1) = false := by simp; omega
  have H1 := Lib.hid (((((Below.refl w.heap.size w).alloc (Nat.le_refl _) (.cells #[.string q] 9)).alloc (by simp) (.cells #[.slice ad r.length cp] 57)).alloc (by simp; omega) (.cells #[.int .u8 (c.toNat : Int)] 5)))
  go_enter Try.func58, Try.ntmps58
  go_wp2
  go_ret
  exact ⟨rfl, H1.out⟩

set_option maxHeartbeats 2000000 in
set_option maxRecDepth 100000 in
theorem next_any {q : ByteArray} {rv : Value} {r : List Nat} {w : World} (h : Ints w rv r) (c : UInt8) (hq : q.size ≤ 1000000) (hn : r.length = q.size + 1) (hr : ∀ i, r.getD i 0 ≤ 500000000) :
    Calls Try.prog 58 #[.string q, rv, .int .u8 (c.toNat : Int)] w fun e w' => ∃ v, e = .returned v ∧ w'.ownsRow w.heap.size 3 1 v (q.size + 1) (nats (nextT q.data.toList r c)) ∧ Below w.heap.size w w' := by
  obtain ⟨i0, hi, hz0, hz1, hz2⟩ := info_parts iInt
  obtain ⟨b, o, cp, rfl, hc⟩ := h.some (by omega)
  have c0 := hc 0 (by omega)
  rw [Nat.add_zero] at c0
  have H := Lib.hid h
  have HC := Lib.hid hc
  have hlt0 := block_lt_of_cell c0
  obtain ⟨y, hy⟩ : ∃ y, r.getD 0 0 = y := ⟨_, rfl⟩
  have hyb : y ≤ 500000000 := by rw [← hy]; exact hr 0
  rw [hy] at c0
  have HR := Lib.hid hr
  have HY := Lib.hid hy
  have HI := Lib.hid (And.intro hi (And.intro hz0 (And.intro hz1 hz2)))
  clear h hc hr hy hi hz0 hz1 hz2
  obtain ⟨m, hm⟩ : ∃ m, r.length = m := ⟨_, rfl⟩
  rw [hm] at HC ⊢
  have hmq : m = q.size + 1 := by omega
  have HM := Lib.hid (And.intro hn hm)
  clear hn hm
  have w0 : IntKind.i64.wrap ((q.size : Int) + 1) = ((q.size + 1 : Nat) : Int) := by rw [IntWalk.i64_in _ (by omega)]; omega
  have e1 : ((m : Int) == (q.size : Int) + 1) = true := by simp; omega
  have e2 : ((m : Int) != (q.size : Int) + 1) = false := by simp; omega
  have e3 : (m == q.size + 1) = true := by simp; omega
  have HQ := Lib.hid hmq
  clear hmq
  go_enter Try.func58, Try.ntmps58
  go_wp2_with ((refine wpList_make_full _ rfl _ _ 57 rfl w.heap.size 3 i0 (.int .i64 0) 1 Try.underlying57 HI.out.1 HI.out.2.1 HI.out.2.2.1 .i64 .i64 _ _ m rfl rfl (by first | rfl | go_num) (by first | rfl | go_num) (by rw [HI.out.2.2.2]; have := HQ.out; omega) (by unfold maxLen; have := HQ.out; omega) (by simp; omega) ?_); intro w1 hr hg)
  obtain ⟨W0, hW0⟩ : ∃ W0, W0 = ((w.alloc (.cells #[.string q] 9)).alloc (.cells #[.slice (some ⟨b, o, none⟩) m cp] 57)).alloc (.cells #[.int .u8 (c.toNat : Int)] 5) := ⟨_, rfl⟩
  have x1 : Boxed W0 w.heap.size 9 (.string q) := by rw [hW0]; exact ((Boxed.new w 9 _).alloc _).alloc _
  have x2 : Boxed W0 (w.heap.size + 1) 57 (.slice (some ⟨b, o, none⟩) m cp) := by
    rw [hW0]; have := (Boxed.new (w.alloc (.cells #[.string q] 9)) 57 (.slice (some ⟨b, o, none⟩) m cp)).alloc (.cells #[.int .u8 (c.toNat : Int)] 5); simpa only [World.size_alloc] using this
  have x3 : Boxed W0 (w.heap.size + 1 + 1) 5 (.int .u8 (c.toNat : Int)) := by
    rw [hW0]; have := Boxed.new ((w.alloc (.cells #[.string q] 9)).alloc (.cells #[.slice (some ⟨b, o, none⟩) m cp] 57)) 5 (.int .u8 (c.toNat : Int)); simpa only [World.size_alloc] using this
  have hb0 : Below w.heap.size w W0 := by
    rw [hW0]
    exact (((Below.refl _ w).alloc (Nat.le_refl _) _).alloc (by simp) _).alloc (by simp; omega) _
  rw [← hW0] at hr hg
  have hsz : w.heap.size + 3 = W0.heap.size := by rw [hW0]; simp
  have hgs := hg.size
  have hb1 : Below w.heap.size w w1 := hb0.grown hg (by omega) (fun k e => by cases e)
  obtain ⟨b2, hb2⟩ : ∃ b2, b2 = w.heap.size + 1 := ⟨_, rfl⟩
  obtain ⟨b3, hb3⟩ : ∃ b3, b3 = w.heap.size + 1 + 1 := ⟨_, rfl⟩
  obtain ⟨g, hgw⟩ : ∃ g, g = w.heap.size + 1 + 1 + 1 := ⟨_, rfl⟩
  rw [show W0.heap.size = g by omega] at hr
  obtain ⟨W4, hW4⟩ : ∃ W4, W4 = w1.alloc (.cells #[.slice (some ⟨g, 0, none⟩) m m] 57) := ⟨_, rfl⟩
  obtain ⟨b5, hb5⟩ : ∃ b5, b5 = w1.heap.size := ⟨_, rfl⟩
  have hb14 : Below w1.heap.size w1 W4 := by rw [hW4]; exact below_alloc _ _
  have N0 : NextI w (.slice (some ⟨b, o, none⟩) m cp) r q c w.heap.size b2 b3 g b5 m (List.replicate m 0) W4 := by
    have ef : ∀ {T : TypeId} {v : Value} {bb : Nat}, Boxed W0 bb T v → Boxed W4 bb T v := fun {T v bb} h => boxed_below (h.kept hg (by simp)) hb14
    refine ⟨ef x1, by rw [hb2]; exact ef x2, by rw [hb3]; exact ef x3, by rw [hW4, hb5]; exact Boxed.new w1 _ _, ?_, hb1.trans (hb14.mono hb1.size), by omega⟩
    have e : (madeCells (Value.int .i64 0).cells (m * 1)).toList = nats (List.replicate m 0) := by
      rw [show (Value.int .i64 0).cells = #[.int .i64 0] from rfl, toList_madeCells_one, Nat.mul_one]
      simp [nats]
    rw [e] at hr
    rw [hW4]
    exact hr.alloc _
  have HN0 := Lib.hid N0
  have k5 := N0.x5.cell
  have k2 := N0.x2.cell
  have c4 : W4.cell? ⟨b, o, none⟩ = some (.int .i64 (y : Int)) := by rw [N0.bel.cell (p := ⟨b, o, none⟩) hlt0]; exact c0
  have kg : W4.cell? ⟨g, 0, none⟩ = some (.int .i64 0) := by
    rw [N0.row.cellAt 0 (by have := HQ.out; omega), nats_at (by rw [List.length_replicate]; have := HQ.out; omega), rep_getD]
    rfl
  have kf : W4.frozen? ⟨g, 0, none⟩ = false := N0.row.frozenAt 0
  have HG := Lib.hid hgw
  have HB0 := Lib.hid (And.intro hb2 (And.intro hb3 hb5))
  clear hr hg x1 x2 x3 hb0 hsz hgs hb1 hb14 N0
  go_upto_region 4 with fail
  rw [← hgw, ← hW4, ← hb5, ← hb3, ← hb2]
  clear hgw hW4 hb5 hb3 hb2 c0 hW0
  have mp : 0 < m := by have := HQ.out; omega
  have mp' : (0 : Int) < (m : Int) := by omega
  have w1' : IntKind.i64.wrap ((y : Int) + 1) = ((y + 1 : Nat) : Int) := by rw [IntWalk.i64_in _ (by omega)]; omega
  go_region
  have N1 : Hid (NextI w (.slice (some ⟨b, o, none⟩) m cp) r q c w.heap.size b2 b3 g b5 m (nextK q.data.toList r c 0) (W4.setCell ⟨g, 0, none⟩ (.int .i64 ((y : Int) + 1))).drew) := Lib.hid (by
    have h1 := (HN0.out.store 0 (y + 1)).drew
    have e : (List.replicate m 0).set 0 (y + 1) = nextK q.data.toList r c 0 := by
      rw [← nextK_zero, ba_length, nx, HY.out, HQ.out]
    rw [e, show ((y + 1 : Nat) : Int) = (y : Int) + 1 by omega] at h1
    exact h1)
  clear w1' mp mp' kg kf c4 k2 k5
  obtain ⟨W5, hW5⟩ : ∃ W5, W5 = (W4.setCell ⟨g, 0, none⟩ (.int .i64 ((y : Int) + 1))).drew := ⟨_, rfl⟩
  rw [← hW5] at N1
  rw [← hW5]
  clear hW5
  go_wp2
  go_loopw [9] (fun s9 wr => ∃ k : Nat, k ≤ q.size ∧ s9 = .int .i64 ((k : Int) + 1) ∧ Hid (NextI w (.slice (some ⟨b, o, none⟩) m cp) r q c w.heap.size b2 b3 g b5 m (nextK q.data.toList r c k) wr)) (fun s9 _ => m - (intOf s9).toNat)
  case atStart => exact ⟨0, Nat.zero_le _, rfl, N1⟩
  case round =>
    obtain ⟨k, hk, rfl, HN⟩ := hrel
    have k5 := HN.out.x5.cell
    by_cases hlt : k < q.size
    · have e4 : decide ((k : Int) + 1 < (m : Int)) = true := by have := HQ.out; simp; omega
      have e5 : decide (k + 1 < m) = true := by have := HQ.out; simp; omega
      have il : (k : Int) + 1 < (m : Int) := by have := HQ.out; omega
      have HX : Hid (∀ W, Below wr.heap.size wr W → W.cell? ⟨b5, 0, none⟩ = some (.slice (some ⟨g, 0, none⟩) m m) ∧ Calls Try.prog 72 #[.int .i64 ((k : Int) + 1), .pointer (some ⟨b2, 0, none⟩), .pointer (some ⟨w.heap.size, 0, none⟩), .pointer (some ⟨b3, 0, none⟩), .pointer (some ⟨b5, 0, none⟩)] W fun e w' => e = .returned (.int .i64 ((nx q.data.toList r c (k + 1) : Nat) : Int)) ∧ Below W.heap.size W w') := Lib.hid fun W hb => by
        have N := HN.out.below hb
        refine ⟨N.x5.cell, ?_⟩
        have hin : Ints W (.slice (some ⟨b, o, none⟩) r.length cp) r := H.out.below N.bel
        rw [HM.out.2] at hin
        have hlen : (nextK q.data.toList r c k).length = m := by rw [nextK_length, ba_length, HQ.out]
        have hin2 : Ints W (.slice (some ⟨g, 0, none⟩) m m) (nextK q.data.toList r c k) := ints_of_owns (by rw [hlen]; exact N.row)
        have hkk := nextK_at q.data.toList r c k (by rw [ba_length]; omega)
        have h1 := number_any N.x2 hin N.x1 N.x3 N.x5 hin2 hlt HM.out.1 (by rw [hlen, HQ.out]) hq (Nat.le_trans (HR.out k) (by omega)) (Nat.le_trans (HR.out (k + 1)) (by omega)) (by rw [hkk]; exact Nat.le_trans (nx_le q.data.toList r c k) (by have := HR.out k; omega))
        rw [hkk] at h1
        exact h1
      have HS : Hid (∀ W, Below wr.heap.size wr W → W.frozen? ⟨g, k + 1, none⟩ = false ∧ ∃ u, W.cell? ⟨g, k + 1, none⟩ = some (.int .i64 u)) := Lib.hid fun W hb => by
        have N := HN.out.below hb
        refine ⟨N.row.frozenAt (k + 1), (((nextK q.data.toList r c k).getD (k + 1) 0 : Nat) : Int), ?_⟩
        rw [N.row.cellAt (k + 1) (by have := HQ.out; omega), nats_at (by rw [nextK_length, ba_length]; omega)]
      obtain ⟨z, hz⟩ : ∃ z, nx q.data.toList r c (k + 1) = z := ⟨_, rfl⟩
      rw [hz] at HX
      have HZ := Lib.hid hz
      clear hz
      go_upto_region 9 with fail
      clear k5
      refine Said.region_tail (by kernel_rfl) 6 (by kernel_rfl) (by kernel_rfl) (by kernel_rfl) [.is (.slice (some ⟨g, 0, none⟩) m m), .is (.int .i64 ((k : Int) + 1)), .is (.func (.func 72) #[] #[.pointer (some ⟨b2, 0, none⟩), .pointer (some ⟨w.heap.size, 0, none⟩), .pointer (some ⟨b3, 0, none⟩), .pointer (some ⟨b5, 0, none⟩)]), .is (.int .i64 ((k : Int) + 1)), .is (.int .i64 (z : Int)), .is (.pointer (some ⟨g, k + 1, none⟩))] ?_
      simp only [List.toList_toArray, List.take_succ_cons, List.take_zero, List.drop_succ_cons, List.drop_zero]
      iterate 4 (
        refine sq_pure (by rfl) (fun W hb _ => ?_) ?_
        · have y1 := (HX.out W hb).1
          go_simp
        simp only [Act.put, List.setIfInBounds_toArray, List.set_cons_zero, List.set_cons_succ])
      refine sq_call (f := 72) (args := #[.int .i64 ((k : Int) + 1), .pointer (some ⟨b2, 0, none⟩), .pointer (some ⟨w.heap.size, 0, none⟩), .pointer (some ⟨b3, 0, none⟩), .pointer (some ⟨b5, 0, none⟩)]) (by rfl) (fun W => by go_simp) (fun W hb _ => (HX.out W hb).2) ?_
      simp only [Act.put, List.setIfInBounds_toArray, List.set_cons_zero, List.set_cons_succ]
      refine sq_pure (by rfl) (fun W hb _ => by (go_simp; all_goals first | done | omega)) ?_
      simp only [Act.put, List.setIfInBounds_toArray, List.set_cons_zero, List.set_cons_succ]
      refine sq_end (fun W9 hb9 hK9 => ?_)
      obtain ⟨f9, u9, c9⟩ := HS.out W9 hb9
      have HN9 := Lib.hid ((HN.out.below hb9).store (k + 1) z)
      clear hK9 hb9
      go_wp2
      exact ⟨⟨k + 1, by omega, by go_num, Lib.hid (by have h9 := HN9.out; have e := nextK_set q.data.toList r c k; rw [HZ.out] at e; rw [e] at h9; exact h9)⟩, by have := HQ.out; simp [intOf]; omega⟩
    · have hkn : k = q.size := by omega
      have e4 : decide ((k : Int) + 1 < (m : Int)) = false := by have := HQ.out; simp; omega
      have e5 : decide (k + 1 < m) = false := by have := HQ.out; simp; omega
      have HK := Lib.hid hkn
      clear hkn hlt
      go_wp2
      go_ret
      have N := HN.out
      rw [HK.out, show q.size = q.data.toList.length from (ba_length q).symm, nextK_all] at N
      have e := HQ.out
      exact ⟨_, rfl, by rw [← e]; exact N.row, N.bel⟩
end Go.Proofs.Ythgdanbkngnckaa
namespace Go.Proofs.Ythgdanbkngnckaa
open Go.RowKit Go.Shelf

attribute [local go_sem] Oper.semAt_some

theorem rows_any (q t : ByteArray) (w : World) :
    Calls Try.prog 39 #[.string q, .string t] w fun e w' => e = .returned (.func (.func 56) #[] #[.pointer (some ⟨w.heap.size, 0, none⟩), .pointer (some ⟨w.heap.size + 1, 0, none⟩)]) ∧ w' = (w.alloc (.cells #[.string q] 9)).alloc (.cells #[.string t] 9) := by
  go_enter Try.func39, Try.ntmps39
  go_wp2
  go_ret
  exact ⟨rfl, rfl⟩

theorem owns_keeps {X : Nat → Prop} {w w' : World} {base size n : Nat} {e : TypeId} {v : Value} {xs : List Value} (h : w.ownsRow base e size v n xs) (k : KeepsX X w w') (hx : ∀ g, v.ownBlock = some g → ¬ X g) : w'.ownsRow base e size v n xs := by
  refine ⟨h.1, ?_⟩
  rcases h.2 with h0 | ⟨g, cap, cur, rfl, hbg, hg, h1⟩
  · exact .inl h0
  · exact .inr ⟨g, cap, cur, rfl, hbg, k _ _ _ _ hg (hx g rfl), h1⟩
theorem owns_below {w w' : World} {base size n : Nat} {e : TypeId} {v : Value} {xs : List Value} (h : w.ownsRow base e size v n xs) (hb : Below w.heap.size w w') : w'.ownsRow base e size v n xs :=
  h.kept (row := none) ⟨hb.os, hb.tape, hb.output, hb.size, fun k hk _ => hb.block k hk⟩ (by
    rcases h.2 with ⟨rfl, _⟩ | ⟨g, cap, cur, rfl, _⟩
    · exact .inl rfl
    · exact .inr (by simp [Value.ownBlock]))
theorem owns_mono {w : World} {base base' size n : Nat} {e : TypeId} {v : Value} {xs : List Value} (h : w.ownsRow base e size v n xs) (hb : base' ≤ base) : w.ownsRow base' e size v n xs := by
  refine ⟨h.1, ?_⟩
  rcases h.2 with h0 | ⟨g, cap, cur, rfl, hbg, h1⟩
  · exact .inl h0
  · exact .inr ⟨g, cap, cur, rfl, Nat.le_trans hb hbg, h1⟩
theorem owns_slice {w : World} {base size n : Nat} {e : TypeId} {v : Value} {xs : List Value} (h : w.ownsRow base e size v n xs) : ∃ ad c, v = .slice ad n c := by
  rcases h.2 with ⟨rfl, rfl⟩ | ⟨g, cap, cur, rfl, _⟩
  · exact ⟨_, _, rfl⟩
  · exact ⟨_, _, rfl⟩

/-- What is handed over: the row behind the first j bytes. -/
def RowRd (q t : ByteArray) (j : Nat) (args : Array Value) (W : World) : Prop := ∃ v, args = #[v] ∧ Ints W v (rowT q.data.toList (t.data.toList.take j))

theorem rowT_bound (q t : List UInt8) (i : Nat) : (rowT q t).getD i 0 ≤ q.length + t.length := by
  by_cases h : i ≤ q.length
  · rw [rowT_at h]
    have h1 := lev_max (q.take i) t
    have h2 : (q.take i).length ≤ q.length := List.length_take_le' _ _
    omega
  · have e : (rowT q t).getD i 0 = 0 := by
      rw [List.getD_eq_getElem?_getD, List.getElem?_eq_none (by rw [rowT_length]; omega)]
      rfl
    omega

set_option maxRecDepth 100000 in
set_option maxHeartbeats 4000000 in
theorem rows1_in {σ : Type} (n : Nat) (hn : 1 ≤ n) (l : Nat) {b1 b2 : Nat} {q t : ByteArray} (idx : σ → Nat) (foot : σ → Nat → Prop) (J : σ → World → Prop) (Jx : World → Prop) (W : World) {s0 : σ} (hq : q.size ≤ 1000) (ht : t.size ≤ 1000)
    (hJ : ∀ s, Bides W.heap.size (foot s) (J s)) (hm : ∀ s W, J s W → Boxed W b1 9 (.string q) ∧ Boxed W b2 9 (.string t) ∧ ∀ g, foot s g → g < W.heap.size)
    (hY : ∀ s args W1, ¬ t.size + 1 ≤ idx s → RowRd q t (idx s) args W1 → J s W1 → YieldAt Fence.wide (n - 1) Try.prog l args W1 fun e W' => (e = .returned (.bool true) ∧ (∃ s', idx s' = idx s + 1 ∧ (∀ g, foot s' g → foot s g ∨ W1.heap.size ≤ g) ∧ J s' W') ∧ W1.heap.size ≤ W'.heap.size ∧ KeepsX (foot s) W1 W') ∨ (e = .returned (.bool false) ∧ Jx W'))
    (h0 : J s0 W) (hi0 : idx s0 = 0) :
    CallsIn Fence.wide n Try.prog 56 #[.func (.yield l) #[] #[], .pointer (some ⟨b1, 0, none⟩), .pointer (some ⟨b2, 0, none⟩)] W fun e W' => (∃ v, e = .returned v) ∧ ((∃ s, t.size + 1 ≤ idx s ∧ J s W') ∨ Jx W') := by
  refine callsIn_of_wp Try.func56 rfl trivial ?_ rfl
  simp only [Try.ntmps56, List.size_toArray, List.length_cons, List.length_nil, Nat.reduceAdd, Nat.reduceSub, Array.replicate_succ, Array.replicate_zero, List.push_toArray, List.append_toArray, List.nil_append, List.cons_append]
  have kd := (hm s0 W h0).1.cell
  have QR := Lib.hid (callsIn_wide (n := n - 1) |>.2 (row_any q W (by omega)))
  have bides : ∀ s W' W'', J s W' → W.heap.size ≤ W'.heap.size → Below W'.heap.size W' W'' → J s W'' := fun s W' W'' hj _ hb => hJ s W' W'' none hj ⟨hb.os, hb.tape, hb.output, hb.size, fun k hk _ => hb.block k hk⟩ (fun r e => by cases e)
  gi_wp2_with (refine ⟨trivial, ?_⟩; gi_at_call 57; go_loud (refine QR.out.mono ?_; rintro e w1 ⟨v, rfl, hrow, hb⟩; obtain ⟨ad, cp, hv⟩ := owns_slice hrow; subst hv))
  have hJ1 : J s0 w1 := bides s0 W w1 h0 (Nat.le_refl _) hb
  have hf1 : ∀ g, (Value.slice ad (q.size + 1) cp).ownBlock = some g → ¬ foot s0 g := fun g hg hf => by
    have h1 := (hm s0 W h0).2.2 g hf
    have h2 := (owns_cells hrow g hg).1
    omega
  have hr1 : w1.ownsRow 0 3 1 (.slice ad (q.size + 1) cp) (q.size + 1) (nats (rowT q.data.toList (t.data.toList.take 0))) := by
    rw [List.take_zero, rowT_nil, ba_length]
    exact owns_mono hrow (Nat.zero_le _)
  have HB := Lib.hid bides
  have HM := Lib.hid hm
  have HY := Lib.hid hY
  have hz1 := hb.size
  have H1 := Lib.hid (And.intro hr1 hf1)
  have HJ1 := Lib.hid hJ1
  clear hrow hb hr1 hf1 QR kd hJ bides hm hY hJ1 h0
  gi_loopw [4, 5] (fun s4 s5 wr => ∃ (s : σ) (ad : Option Addr) (cp : Nat), idx s ≤ t.size ∧ s5 = .int .i64 (idx s : Nat) ∧ s4 = .slice ad (q.size + 1) cp ∧ Hid (J s wr) ∧ W.heap.size ≤ wr.heap.size ∧ Hid (wr.ownsRow 0 3 1 (.slice ad (q.size + 1) cp) (q.size + 1) (nats (rowT q.data.toList (t.data.toList.take (idx s)))) ∧ ∀ g, (Value.slice ad (q.size + 1) cp).ownBlock = some g → ¬ foot s g)) (fun _ s5 _ => t.size - (intOf s5).toNat)
  case atStart => exact ⟨s0, ad, cp, by omega, by rw [hi0]; rfl, rfl, HJ1, hz1, by rw [hi0]; exact H1⟩
  case round =>
    obtain ⟨s, ad, cp, hk, rfl, rfl, hj, hwz, hown⟩ := hrel
    obtain ⟨j, hjx⟩ : ∃ j, idx s = j := ⟨_, rfl⟩
    have hy0 := HY.out s
    rw [hjx] at hk hown hy0 ⊢
    have hin : Ints wr (.slice ad (q.size + 1) cp) (rowT q.data.toList (t.data.toList.take j)) := ints_of_owns (by rw [rowT_length, ba_length]; exact hown.out.1)
    obtain ⟨k1, k2, k3⟩ := HM.out s wr hj.out
    have c1 := k1.cell
    have c2 := k2.cell
    have hy1 := hy0 #[.slice ad (q.size + 1) cp] wr (by omega) ⟨_, rfl, hin⟩ hj.out
    obtain ⟨fn, tmps, assign, body, hy, hR⟩ := hy1
    have HJX := Lib.hid hjx
    clear hy0 hin k1 k2 k3 hjx
    obtain ⟨xt, hxt⟩ : ∃ x, t.data.toList.getD j 0 = x := ⟨_, rfl⟩
    by_cases hlt : j < t.size
    · have e1 : decide ((j : Int) < (t.size : Int)) = true := by simp; omega
      have e2 : decide (j < t.size) = true := by simp; omega
      have HX := Lib.hid hxt
      clear hxt
      gi_wp2
      refine hR.mono ?_
      rintro e W3 (⟨rfl, ⟨s', hs', hfs, hj'⟩, hz3, hk3⟩ | ⟨rfl, hjx⟩)
      · have hown3 := owns_keeps hown.out.1 hk3 (fun g hg => hown.out.2 g hg)
        have hin3 : Ints W3 (.slice ad (q.size + 1) cp) (rowT q.data.toList (t.data.toList.take j)) := ints_of_owns (by rw [rowT_length, ba_length]; exact hown3)
        obtain ⟨k1, k2, k3⟩ := HM.out s' W3 hj'
        have c1' := k1.cell
        have c2' := k2.cell
        have hbx : t[j].toNat = xt.toNat := by rw [← HX.out, byte_getD t j hlt]
        have QN : Hid (∀ W', Below W3.heap.size W3 W' → CallsIn Fence.wide (n - 1) Try.prog 58 #[.string q, .slice ad (q.size + 1) cp, .int .u8 (t[j].toNat : Int)] W' fun e w' => ∃ v, e = .returned v ∧ w'.ownsRow W'.heap.size 3 1 v (q.size + 1) (nats (rowT q.data.toList (t.data.toList.take (j + 1)))) ∧ Below W'.heap.size W' w') := Lib.hid fun W' hb' => by
          have hnx := next_any (q := q) (hin3.below hb') xt (by omega) (by rw [rowT_length, ba_length]) (fun i => Nat.le_trans (rowT_bound _ _ i) (by
            rw [ba_length]
            have : (t.data.toList.take j).length ≤ t.data.toList.length := List.length_take_le' _ _
            rw [ba_length] at this
            omega))
          rw [nextT_row, ← HX.out, ← take_next t.data.toList j (by rw [ba_length]; exact hlt)] at hnx
          rw [hbx, ← HX.out]
          exact callsIn_wide.2 hnx
        have hw : IntKind.i64.wrap (j : Int) = (j : Int) := IntWalk.i64_in _ (by omega)
        have hil : (j : Int) < (t.size : Int) := by omega
        have hmo : Try.prog.follows .mixedOrders = true := by kernel_rfl
        have HK := Lib.hid (And.intro hfs (And.intro hj' (And.intro k3 (And.intro hz3 hs'))))
        clear hy hR hown3 hin3 k1 k2 k3 hfs hj' hbx hk3 hz3 hs'
        gi_wp2
        gi_region_with_o (refine ⟨trivial, ?_⟩; gi_at_call 58; refine (QN.out _ (Below.drew (Below.refl _ _))).mono ?_; rintro e w1 ⟨v, rfl, hrow, hb⟩)
        all_goals (
          obtain ⟨ad2, cp2, hv2⟩ := owns_slice hrow
          subst hv2
          obtain ⟨j1, j2, j3, j4, j5⟩ := HK.out
          have hb' : Below W3.heap.size W3 w1 := (Below.drew (Below.refl W3.heap.size W3)).trans hb
          have HJ := Lib.hid (HB.out s' W3 w1 j2 (by omega) hb')
          have hsz' : W.heap.size ≤ w1.heap.size := by have := hb'.size; omega
          have HO := Lib.hid (And.intro (owns_mono hrow (Nat.zero_le _)) (fun (g : Nat) (hg : (Value.slice ad2 (q.size + 1) cp2).ownBlock = some g) (hf : foot s' g) => by
            have h1 := j3 g hf
            have h2 := (owns_cells hrow g hg).1
            have h3 : W3.drew.heap.size = W3.heap.size := rfl
            omega : (∀ (g : Nat), (Value.slice ad2 (q.size + 1) cp2).ownBlock = some g → ¬ foot s' g)))
          rw [← HJX.out] at j5
          clear hb' hb hrow j1 j2 j3 j4
          have hji := HJX.out
          gi_wp2
          exact ⟨⟨s', ad2, cp2, by omega, by rw [j5, hji]; go_num, rfl, HJ, hsz', by rw [j5, hji]; exact HO⟩, by simp [intOf]; omega⟩)
      · clear hy hR
        gi_wp2
        refine bodyPost_end (results_none rfl _ _ _) rfl ?_
        exact ⟨⟨_, rfl⟩, .inr hjx⟩
    · have e1 : decide ((j : Int) < (t.size : Int)) = false := by simp; omega
      have e2 : decide (j < t.size) = false := by simp; omega
      clear hxt
      gi_wp2
      refine hR.mono ?_
      rintro e W3 (⟨rfl, ⟨s', hs', hfs, hj'⟩, hz3, hk3⟩ | ⟨rfl, hjx⟩)
      · have c1' := (HM.out s' W3 hj').1.cell
        have c2' := (HM.out s' W3 hj').2.1.cell
        have HK := Lib.hid (And.intro hj' hs')
        clear hy hR hj' hs' hfs hz3 hk3
        gi_wp2
        refine bodyPost_end (results_none rfl _ _ _) rfl ?_
        exact ⟨⟨_, rfl⟩, .inl ⟨s', by have := HK.out.2; omega, HK.out.1⟩⟩
      · clear hy hR
        gi_wp2
        refine bodyPost_end (results_none rfl _ _ _) rfl ?_
        exact ⟨⟨_, rfl⟩, .inr hjx⟩

theorem rows_iter {σ : Type} (n : Nat) (hn : 1 ≤ n) {b1 b2 : Nat} {q t : ByteArray} (idx : σ → Nat) (foot : σ → Nat → Prop) (w : World) {s0 : σ} (hq : q.size ≤ 1000) (ht : t.size ≤ 1000) (hi0 : idx s0 = 0) :
    IterFoot n Try.prog 56 #[.pointer (some ⟨b1, 0, none⟩), .pointer (some ⟨b2, 0, none⟩)] (fun s => RowRd q t (idx s)) foot (fun s s' => idx s' = idx s + 1) (fun s => t.size + 1 ≤ idx s) s0
      (fun J => ∀ s W, J s W → Boxed W b1 9 (.string q) ∧ Boxed W b2 9 (.string t) ∧ ∀ g, foot s g → g < W.heap.size) w := by
  intro l J Jx W hW hJ hm hf0 hY h0
  exact rows1_in n hn l idx foot J Jx W hq ht hJ hm (fun s args W1 h1 h2 h3 => hY s args W1 h1 h2 h3) h0 hi0
end Go.Proofs.Ythgdanbkngnckaa
namespace Go.Proofs.Ythgdanbkngnckaa
open Go.RowKit Go.Shelf

attribute [local go_sem] Oper.semAt_some

theorem four_boxes (w : World) (v0 v5 v6 v7 : Value) (t0 t5 t6 t7 : TypeId) (W : World) (e : W = (((w.alloc (.cells #[v0] t0)).alloc (.cells #[v5] t5)).alloc (.cells #[v6] t6)).alloc (.cells #[v7] t7)) :
    Boxed W w.heap.size t0 v0 ∧ Boxed W (w.heap.size + 1) t5 v5 ∧ Boxed W (w.heap.size + 1 + 1) t6 v6 ∧ Boxed W (w.heap.size + 1 + 1 + 1) t7 v7 ∧ Below w.heap.size w W ∧ W.heap.size = w.heap.size + 4 := by
  subst e
  refine ⟨(((Boxed.new w t0 v0).alloc _).alloc _).alloc _, ?_, ?_, ?_, (((((Below.refl _ w).alloc (Nat.le_refl _) _).alloc (by simp) _).alloc (by simp; omega) _).alloc (by simp; omega) _), by simp⟩
  · have := ((Boxed.new (w.alloc (.cells #[v0] t0)) t5 v5).alloc (.cells #[v6] t6)).alloc (.cells #[v7] t7); simpa only [World.size_alloc] using this
  · have := (Boxed.new ((w.alloc (.cells #[v0] t0)).alloc (.cells #[v5] t5)) t6 v6).alloc (.cells #[v7] t7); simpa only [World.size_alloc] using this
  · have := Boxed.new (((w.alloc (.cells #[v0] t0)).alloc (.cells #[v5] t5)).alloc (.cells #[v6] t6)) t7 v7; simpa only [World.size_alloc] using this

theorem ints_putObj {W : World} {v : Value} {l : List Nat} {r : Nat} {o o' : Obj} (hi : Ints W v l) (hr : W.heap[r]? = some o) (ho : o.isCells = false) : Ints (W.putObj r o') v l := by
  obtain ⟨ad', c', hv, hc⟩ := hi
  refine ⟨ad', c', hv, fun i hi => ?_⟩
  obtain ⟨bb, oo, e, hci⟩ := hc i hi
  refine ⟨bb, oo, e, ?_⟩
  rw [World.cell?_of_block (a := ⟨bb, oo + i, none⟩) (World.putObj_heap_other (fun e => ?_))]
  · exact hci
  · simp only at e
    subst e
    unfold World.cell? at hci
    simp only [hr] at hci
    cases o <;> simp_all [Obj.isCells]
end Go.Proofs.Ythgdanbkngnckaa
namespace Go.Proofs.Ythgdanbkngnckaa
open Go.RowKit Go.Shelf Said

theorem news_one (w : World) (v : Value) (t : TypeId) : ∀ (j : Nat) (u : Value), [v][j]? = some u → (w.alloc (.cells #[v] t)).cell? ((⟨w.heap.size, 0, none⟩ : Addr).add j) = some u := by
  intro j u hj
  cases j with
  | zero => simp at hj; subst hj; simp [go_sem, Addr.add]
  | succ j => simp at hj
theorem oneCell_one {v : Value} (h : v.oneCell' = true) : ∀ u ∈ [v], u.oneCell' = true := by
  intro u hu
  rw [List.mem_singleton.1 hu]
  exact h

theorem iRowI : (Try.prog.info? 57).map (fun i => (i.zero, i.size, i.bytes)) = some (some (.slice none 0 0), 1, 24) := by kernel_rfl

/-- The distances of a's beginning of i bytes and all of b's. -/
def drow (a b : List UInt8) (i : Nat) : List Nat := (List.range (b.length + 1)).map fun k => dd a b i k
theorem drow_length (a b : List UInt8) (i : Nat) : (drow a b i).length = b.length + 1 := by simp [drow]
theorem drow_at (a b : List UInt8) (i k : Nat) (h : k ≤ b.length) : (drow a b i).getD k 0 = dd a b i k := by
  unfold drow
  rw [List.getD_eq_getElem?_getD, List.getElem?_map, List.getElem?_range (by omega)]
  rfl
def drowK (a b : List UInt8) (i k : Nat) : List Nat := (List.range (b.length + 1)).map fun t => if t < k then dd a b i t else 0
theorem drowK_length (a b : List UInt8) (i k : Nat) : (drowK a b i k).length = b.length + 1 := by simp [drowK]
theorem drowK_at (a b : List UInt8) (i k t : Nat) (h : t < k) (hk : t ≤ b.length) : (drowK a b i k).getD t 0 = dd a b i t := by
  unfold drowK
  rw [List.getD_eq_getElem?_getD, List.getElem?_map, List.getElem?_range (by omega)]
  simp [h]
theorem drowK_zero (a b : List UInt8) (i : Nat) : drowK a b i 0 = List.replicate (b.length + 1) 0 := by
  unfold drowK
  apply List.ext_getElem
  · simp
  · intro t h1 h2
    simp
theorem drowK_all (a b : List UInt8) (i : Nat) : drowK a b i (b.length + 1) = drow a b i := by
  unfold drowK drow
  apply List.map_congr_left
  intro t ht
  rw [if_pos (List.mem_range.1 ht)]
theorem drowK_set (a b : List UInt8) (i k : Nat) : (drowK a b i k).set k (dd a b i k) = drowK a b i (k + 1) := by
  unfold drowK
  apply List.ext_getElem
  · simp
  · intro t h1 h2
    simp only [List.length_set, List.length_map, List.length_range] at h1
    by_cases e : k = t
    · subst e
      simp
    · rw [List.getElem_set_ne e]
      simp only [List.getElem_map, List.getElem_range]
      by_cases h : t < k
      · rw [if_pos h, if_pos (by omega)]
      · rw [if_neg h, if_neg (by omega)]

/-- A row of numbers that is read; its block holds numbers. -/
def NRow (w : World) (base : Nat) (v : Value) (l : List Nat) : Prop :=
  ∃ (g c : Nat) (cur : Array Value), v = .slice (some ⟨g, 0, none⟩) l.length c ∧ base ≤ g ∧ w.heap[g]? = some (.cells cur 3 (0, 0)) ∧ ∀ i, i < l.length → cur[i]? = some (.int .i64 ((l.getD i 0 : Nat) : Int))
theorem NRow.same {w w' : World} {base : Nat} {v : Value} {l : List Nat} (h : NRow w base v l) (hb : ∀ g o, v.ownBlock = some g → w.heap[g]? = some o → w'.heap[g]? = some o) : NRow w' base v l := by
  obtain ⟨g, c, cur, rfl, hg, hh, hc⟩ := h
  exact ⟨g, c, cur, rfl, hg, hb g _ rfl hh, hc⟩
theorem NRow.below {w w' : World} {base : Nat} {v : Value} {l : List Nat} (h : NRow w base v l) (hb : Below w.heap.size w w') : NRow w' base v l :=
  h.same fun g o _ hh => (hb.block g (Array.getElem?_eq_some_iff.1 hh).1).trans hh
theorem NRow.mono {w : World} {base base' : Nat} {v : Value} {l : List Nat} (h : NRow w base v l) (hb : base' ≤ base) : NRow w base' v l := by
  obtain ⟨g, c, cur, rfl, hg, hh, hc⟩ := h
  exact ⟨g, c, cur, rfl, Nat.le_trans hb hg, hh, hc⟩
theorem nrow_of_owns {W : World} {base : Nat} {v : Value} {l : List Nat} (h : W.ownsRow base 3 1 v l.length (nats l)) (hl : 0 < l.length) : NRow W base v l := by
  rcases h.2 with ⟨_, h0⟩ | ⟨g, cap, cur, rfl, hb, hg, _, _, _, ht⟩
  · omega
  · refine ⟨g, cap, cur, rfl, hb, hg, fun i hi => ?_⟩
    have hx := nats_at hi
    rw [← ht, List.getElem?_take] at hx
    split at hx
    · rw [Array.getElem?_toList] at hx
      exact hx
    · cases hx

/-- The table in memory: its first rows. -/
structure TabN (a b : List UInt8) (base : Nat) (tv : Value) (k : Nat) (vs : List Value) (W : World) : Prop where
  own : W.ownsRow base 57 1 tv k vs
  row : ∀ j, j < k → ∃ v, vs[j]? = some v ∧ NRow W base v (drow a b j)
theorem TabN.below {a b : List UInt8} {base k : Nat} {tv : Value} {vs : List Value} {W W' : World} (h : TabN a b base tv k vs W) (hb : Below W.heap.size W W') : TabN a b base tv k vs W' :=
  ⟨owns_below h.own hb, fun j hj => by
    obtain ⟨v, h1, h2⟩ := h.row j hj
    exact ⟨v, h1, h2.below hb⟩⟩
theorem TabN.more {a b : List UInt8} {base k : Nat} {tv tv' v : Value} {vs : List Value} {W W' : World} (h : TabN a b base tv k vs W) (ho : W'.ownsRow base 57 1 tv' (k + 1) (vs ++ [v])) (hg : W.grownBy W' tv.ownBlock) (hv : NRow W base v (drow a b k)) : TabN a b base tv' (k + 1) (vs ++ [v]) W' := by
  have off : OffT W tv.ownBlock 3 := off_cells (owns_cells h.own) (by decide)
  have kp : ∀ {u : Value} {l : List Nat}, NRow W base u l → NRow W' base u l := fun {u l} hu => by
    refine hu.same fun g o _ hh => ?_
    obtain ⟨g', c, cur, rfl, _, hh', _⟩ := hu
    cases ‹(Value.slice (some ⟨g', 0, none⟩) l.length c).ownBlock = some g›
    rw [hh'] at hh
    cases hh
    exact (hg.block g' (Array.getElem?_eq_some_iff.1 hh').1 (fun e => off g' _ _ e.symm hh')).trans hh'
  have hlen : vs.length = k := by have := h.own.1; omega
  refine ⟨ho, fun j hj => ?_⟩
  by_cases hjk : j < k
  · obtain ⟨u, h1, h2⟩ := h.row j hjk
    exact ⟨u, by rw [List.getElem?_append_left (by omega)]; exact h1, kp h2⟩
  · obtain rfl : j = k := by omega
    exact ⟨v, by rw [List.getElem?_append_right (by omega), hlen]; simp, kp hv⟩
theorem TabN.cell {a b : List UInt8} {base k m : Nat} {td : Option Addr} {tp : Nat} {vs : List Value} {W : World} (h : TabN a b base (.slice td k tp) k vs W) (hm : m = b.length) (j : Nat) (hj : j < k) : ∃ gt gr c, td = some ⟨gt, 0, none⟩ ∧ W.cell? ⟨gt, j, none⟩ = some (.slice (some ⟨gr, 0, none⟩) (m + 1) c) ∧ ∀ t, t ≤ m → W.cell? ⟨gr, t, none⟩ = some (.int .i64 ((dd a b j t : Nat) : Int)) := by
  obtain ⟨v, h1, g, c, cur, rfl, hb, hh, hc⟩ := h.row j hj
  obtain ⟨gt, rfl⟩ : ∃ gt, td = some ⟨gt, 0, none⟩ := by
    rcases h.own.2 with ⟨h2, h0⟩ | ⟨g, cap, cur, h2, _⟩
    · omega
    · injection h2 with h2; exact ⟨g, h2⟩
  rw [drow_length, ← hm] at h1
  refine ⟨gt, g, c, rfl, by rw [h.own.cellAt j (by omega)]; exact h1, fun t ht => ?_⟩
  have h3 := hc t (by rw [drow_length]; omega)
  rw [drow_at _ _ _ _ (by omega)] at h3
  rw [cell_of_row W g t _ _ _ hh]
  exact h3

set_option maxHeartbeats 10000000 in
set_option maxRecDepth 100000 in
theorem table_any (a b : ByteArray) (w : World) (ha : a.size ≤ 1000) (hb : b.size ≤ 1000) :
    Calls Try.prog 84 #[.string a, .string b] w fun e w' => ∃ td tp vs, e = .returned (.slice td (a.size + 1) tp) ∧ TabN a.data.toList b.data.toList w.heap.size (.slice td (a.size + 1) tp) (a.size + 1) vs w' ∧ Below w.heap.size w w' := by
  obtain ⟨n, hn⟩ : ∃ n, n = a.size := ⟨_, rfl⟩
  obtain ⟨m, hm⟩ : ∃ m, m = b.size := ⟨_, rfl⟩
  have HN := Lib.hid (And.intro hn hm)
  rw [← hn] at ha ⊢
  rw [← hm] at hb
  have es : (a.size : Int) = (n : Int) := by rw [hn]
  have et : (b.size : Int) = (m : Int) := by rw [hm]
  clear hn hm
  obtain ⟨i8, hi, hz0, hz1, hz2⟩ := info_parts iRowI
  have HI := Lib.hid (And.intro hi (And.intro hz0 (And.intro hz1 hz2)))
  obtain ⟨j8, gi, gz0, gz1, gz2⟩ := info_parts iInt
  have HJ := Lib.hid (And.intro gi (And.intro gz0 (And.intro gz1 gz2)))
  clear hi hz0 hz1 hz2 gi gz0 gz1 gz2
  go_enter Try.func84, Try.ntmps84
  go_wp2
  go_loopw [5, 6] (fun s5 s6 wr => ∃ (i : Nat) (td : Option Addr) (tp : Nat) (vs : List Value), i ≤ n + 1 ∧ s6 = .int .i64 (i : Int) ∧ s5 = .slice td i tp ∧ Hid (TabN a.data.toList b.data.toList w.heap.size (.slice td i tp) i vs wr) ∧ Hid (Below w.heap.size w wr)) (fun _ s6 _ => n + 1 - (intOf s6).toNat)
  case atStart => exact ⟨0, none, 0, [], by omega, rfl, rfl, Lib.hid ⟨World.ownsRow_nil w w.heap.size 57 1, fun j hj => by omega⟩, Lib.hid (Below.refl _ _)⟩
  case round =>
    obtain ⟨i, td, tp, vs, hi, rfl, rfl, HT, HB⟩ := hrel
    obtain ⟨wo, rfl⟩ : ∃ wo : World, wo = wr := ⟨_, rfl⟩
    by_cases hlt : i ≤ n
    · have d1 : decide ((i : Int) ≤ (n : Int)) = true := decide_eq_true (by omega)
      have d2 : decide (i ≤ n) = true := decide_eq_true hlt
      go_upto_region 6 with (refine wpList_make_full _ rfl _ _ 57 rfl wo.heap.size 3 j8 (.int .i64 0) 1 Try.underlying57 HJ.out.1 HJ.out.2.1 HJ.out.2.2.1 .i64 .i64 _ _ (m + 1) rfl rfl (by first | rfl | go_num) (by first | rfl | go_num) (by rw [HJ.out.2.2.2]; omega) (by unfold maxLen; omega) (Nat.le_refl _) ?_; intro w2 hl2 hg2)
      obtain ⟨gl, hgl⟩ : ∃ gl, gl = wo.heap.size := ⟨_, rfl⟩
      have HL0 : Hid (w2.ownsRow gl 3 1 (.slice (some ⟨gl, 0, none⟩) (m + 1) (m + 1)) (m + 1) (nats (drowK a.data.toList b.data.toList i 0))) := Lib.hid (by
        have e : (madeCells (Value.int .i64 0).cells ((m + 1) * 1)).toList = nats (List.replicate (m + 1) 0) := by
          rw [show (Value.int .i64 0).cells = #[.int .i64 0] from rfl, toList_madeCells_one, Nat.mul_one]
          simp [nats]
        rw [e, ← hgl] at hl2
        rw [drowK_zero, ba_length, ← HN.out.2]
        exact hl2)
      have HB2 : Hid (Below wo.heap.size wo w2) := Lib.hid ((Below.refl _ wo).grown hg2 (Nat.le_refl _) (fun k e => by cases e))
      rw [← hgl]
      have HGL := Lib.hid hgl
      clear hl2 hg2 hgl
      go_wp2
      go_loopw [8] (fun s8 w3 => ∃ k : Nat, k ≤ m + 1 ∧ s8 = .int .i64 (k : Int) ∧ Hid (w3.ownsRow gl 3 1 (.slice (some ⟨gl, 0, none⟩) (m + 1) (m + 1)) (m + 1) (nats (drowK a.data.toList b.data.toList i k))) ∧ Hid (Below wo.heap.size wo w3)) (fun s8 _ => m + 1 - (intOf s8).toNat)
      case atStart => exact ⟨0, Nat.zero_le _, rfl, HL0, HB2⟩
      case round =>
        obtain ⟨k, hk, rfl, HL, HB3⟩ := hrel
        by_cases hkm : k ≤ m
        · have d3 : decide ((k : Int) ≤ (m : Int)) = true := decide_eq_true (by omega)
          have d4 : decide (k ≤ m) = true := decide_eq_true hkm
          have il : (k : Int) < (m : Int) + 1 := by omega
          obtain ⟨y0, hy0⟩ : ∃ y, (drowK a.data.toList b.data.toList i k).getD k 0 = y := ⟨_, rfl⟩
          have ck : wr.cell? ⟨gl, k, none⟩ = some (.int .i64 (y0 : Int)) := by
            rw [HL.out.cellAt k (by omega), nats_at (by rw [drowK_length, ba_length, ← HN.out.2]; omega), hy0]
          have fk := HL.out.frozenAt k
          have fin : ∀ z : Nat, dd a.data.toList b.data.toList i k = z → Hid ((wr.setCell ⟨gl, k, none⟩ (.int .i64 (z : Int))).ownsRow gl 3 1 (.slice (some ⟨gl, 0, none⟩) (m + 1) (m + 1)) (m + 1) (nats (drowK a.data.toList b.data.toList i (k + 1))) ∧ Below wo.heap.size wo (wr.setCell ⟨gl, k, none⟩ (.int .i64 (z : Int)))) := fun z hz => Lib.hid (by
            have h := (HL.out.stored k (.int .i64 (z : Int))).1
            rw [nats_set, ← hz, drowK_set] at h
            rw [hz] at h
            exact ⟨h, HB3.out.setCell (p := ⟨gl, k, none⟩) (by rw [HGL.out]; exact Nat.le_refl _) _⟩)
          clear hy0
          by_cases hi0 : i = 0
          · have f1 : ((i : Int) == 0) = true := by simp; omega
            have f1' : (i == 0) = true := by simp; omega
            have HF := fin k (by rw [hi0, dd_zero _ _ _ (by rw [ba_length, ← HN.out.2]; exact hkm)])
            clear fin hi0
            go_wp2
            exact ⟨⟨k + 1, by omega, by go_num, Lib.hid HF.out.1, Lib.hid HF.out.2⟩, by simp [intOf]; omega⟩
          · have f1 : ((i : Int) == 0) = false := by simp; omega
            have f1' : (i == 0) = false := by simp; omega
            by_cases hk0 : k = 0
            · have f2 : ((k : Int) == 0) = true := by simp; omega
              have f2' : (k == 0) = true := by simp; omega
              have HF := fin i (by rw [hk0, dd_to_zero _ _ _ (by rw [ba_length, ← HN.out.1]; exact hlt)])
              clear fin hi0 hk0
              go_wp2
              exact ⟨⟨k + 1, by omega, by go_num, Lib.hid HF.out.1, Lib.hid HF.out.2⟩, by simp [intOf]; omega⟩
            · have f2 : ((k : Int) == 0) = false := by simp; omega
              have f2' : (k == 0) = false := by simp; omega
              obtain ⟨i', rfl⟩ : ∃ t, i = t + 1 := ⟨i - 1, by omega⟩
              obtain ⟨k', rfl⟩ : ∃ t, k = t + 1 := ⟨k - 1, by omega⟩
              have HTw := HT.out.below HB3.out
              obtain ⟨gt, gr, gc, htd, kt, kr⟩ := HTw.cell (m := m) (by rw [ba_length, HN.out.2]) i' (by omega)
              subst htd
              obtain ⟨X, hX⟩ : ∃ x, dd a.data.toList b.data.toList i' k' = x := ⟨_, rfl⟩
              obtain ⟨Y, hY⟩ : ∃ x, dd a.data.toList b.data.toList i' (k' + 1) = x := ⟨_, rfl⟩
              obtain ⟨Z, hZ⟩ : ∃ x, dd a.data.toList b.data.toList (i' + 1) k' = x := ⟨_, rfl⟩
              have k1 := kr k' (by omega)
              have k2 := kr (k' + 1) hkm
              rw [hX] at k1
              rw [hY] at k2
              have k3 : wr.cell? ⟨gl, k', none⟩ = some (.int .i64 (Z : Int)) := by
                rw [HL.out.cellAt k' (by omega), nats_at (by rw [drowK_length, ba_length, ← HN.out.2]; omega), drowK_at _ _ _ _ _ (by omega) (by rw [ba_length, ← HN.out.2]; omega), hZ]
              have hia : i' < a.size := by rw [← HN.out.1]; omega
              have hkb : k' < b.size := by rw [← HN.out.2]; omega
              have bd : X ≤ 2000 ∧ Y ≤ 2000 ∧ Z ≤ 2000 := by
                have h1 := dd_bound a.data.toList b.data.toList i' k'
                have h2 := dd_bound a.data.toList b.data.toList i' (k' + 1)
                have h3 := dd_bound a.data.toList b.data.toList (i' + 1) k'
                rw [ba_length, ba_length] at h1 h2 h3
                have := HN.out
                omega
              have w1 : IntKind.i64.wrap (i' : Int) = (i' : Int) := IntWalk.i64_in _ (by omega)
              have w2 : IntKind.i64.wrap (k' : Int) = (k' : Int) := IntWalk.i64_in _ (by omega)
              have w3 : IntKind.i64.wrap ((i' : Int) + 1 - 1) = (i' : Int) := by rw [show (i' : Int) + 1 - 1 = i' by omega]; exact w1
              have w4 : IntKind.i64.wrap ((k' : Int) + 1 - 1) = (k' : Int) := by rw [show (k' : Int) + 1 - 1 = k' by omega]; exact w2
              have ia : (i' : Int) < (n : Int) := by omega
              have ia2 : (i' : Int) < (i' : Int) + 1 := by omega
              have ib : (k' : Int) < (m : Int) := by omega
              have ib2 : (k' : Int) < (m : Int) + 1 := by omega
              have ib3 : (k' : Int) + 1 < (m : Int) + 1 := by omega
              have j1 : ((k' : Int) + 1).toNat = k' + 1 := by omega
              clear kr hi0 hk0
              by_cases hab : a[i'] = b[k']
              · have e1 : ((a[i'].toNat : Int) == (b[k'].toNat : Int)) = true := by rw [hab]; simp
                have e2 : (a[i'].toNat == b[k'].toNat) = true := by rw [hab]; simp
                have HF := fin X (by rw [dd_same _ _ _ _ (by rw [ba_length]; exact hia) (by rw [ba_length]; exact hkb) (by rw [byte_getD a i' hia, byte_getD b k' hkb, hab]), hX])
                clear fin hX hY hZ hab
                go_wp2
                go_region
                go_wp2
                exact ⟨⟨k' + 1 + 1, by omega, by go_num, Lib.hid HF.out.1, Lib.hid (Below.drew HF.out.2)⟩, by simp [intOf]; omega⟩
              · have hab' : a[i'].toNat ≠ b[k'].toNat := fun e => hab (UInt8.toNat_inj.1 e)
                have e1 : ((a[i'].toNat : Int) == (b[k'].toNat : Int)) = false := by simp; omega
                have e2 : (a[i'].toNat == b[k'].toNat) = false := by simp; omega
                obtain ⟨mn, hmn⟩ : ∃ mn, mn = min (min X Y) Z := ⟨_, rfl⟩
                have HF := fin (mn + 1) (by
                  rw [dd_succ _ _ _ _ (by rw [ba_length]; exact hia) (by rw [ba_length]; exact hkb), hX, hY, hZ, show ch (a.data.toList.getD i' 0) (b.data.toList.getD k' 0) = 1 by unfold ch; rw [byte_getD a i' hia, byte_getD b k' hkb, if_neg hab]]
                  omega)
                have hv : (1 : Int) + (if (Z : Int) < (if Y < X then (Y : Int) else (X : Int)) then (Z : Int) else (if Y < X then (Y : Int) else (X : Int))) = ((mn + 1 : Nat) : Int) := by
                  rw [hmn]
                  by_cases q1 : Y < X
                  · rw [if_pos q1]; split <;> omega
                  · rw [if_neg q1]; split <;> omega
                have HV := Lib.hid hv
                clear hv
                have HMN := Lib.hid hmn
                clear fin hX hY hZ hab hab' hmn
                go_wp2
                go_region
                go_wp2
                go_region
                go_wp2
                have h1 := HF.out
                rw [← HV.out] at h1
                exact ⟨⟨k' + 1 + 1, by omega, by go_num, Lib.hid h1.1, Lib.hid (Below.drew (Below.drew h1.2))⟩, by simp [intOf]; omega⟩
        · have hke : k = m + 1 := by omega
          have d3 : decide ((k : Int) ≤ (m : Int)) = false := decide_eq_false (by omega)
          have d4 : decide (k ≤ m) = false := decide_eq_false hkm
          have HBR : Hid (NRow wr w.heap.size (.slice (some ⟨gl, 0, none⟩) (m + 1) (m + 1)) (drow a.data.toList b.data.toList i)) := Lib.hid (by
            refine NRow.mono (nrow_of_owns ?_ (by rw [drow_length]; omega)) (show w.heap.size ≤ gl by rw [HGL.out]; exact HB.out.size)
            have h9 := HL.out
            rw [hke, HN.out.2, show b.size = b.data.toList.length from (ba_length b).symm, drowK_all] at h9
            rw [drow_length, ba_length, ← HN.out.2]
            rw [ba_length, ← HN.out.2] at h9
            exact h9)
          have HT6 := Lib.hid (HT.out.below HB3.out)
          have HW6 := Lib.hid (HB.out.trans (HB3.out.mono HB.out.size))
          have HBS : Hid (w.heap.size ≤ (wr.alloc (.cells #[.slice (some ⟨gl, 0, none⟩) (m + 1) (m + 1)] 57)).heap.size) := Lib.hid (by have := HW6.out.size; simp; omega)
          clear hke hkm
          go_wp2_with (at_builtin; refine wpList_append_own _ rfl _ _ 112 rfl w.heap.size 57 i8 (.slice none 0 0) 1 24 Try.underlying112 HI.out.1 HI.out.2.1 HI.out.2.2.1 HI.out.2.2.2 rfl (by decide) _ _ _ rfl (HT6.out.own.alloc _) ⟨wr.heap.size, 0, none⟩ 1 1 [.slice (some ⟨gl, 0, none⟩) (m + 1) (m + 1)] rfl rfl (news_one _ _ _) (oneCell_one rfl) (by unfold maxLen; omega) (by omega) HBS.out ?_; intro v' w7 hown7 hg7 _; obtain ⟨td', tp', hv7⟩ := owns_slice hown7; subst hv7)
          have hb7 : Below wr.heap.size wr (wr.alloc (.cells #[.slice (some ⟨gl, 0, none⟩) (m + 1) (m + 1)] 57)) := below_alloc wr _
          have HM := Lib.hid ((HT6.out.below hb7).more hown7 hg7 (HBR.out.below hb7))
          have HW7 := Lib.hid ((HW6.out.trans (hb7.mono HW6.out.size)).grown hg7 HBS.out (fun k e => (owns_cells (HT6.out.below hb7).own k e).1))
          clear hown7 hg7 hb7
          go_wp2
          exact ⟨⟨i + 1, td', tp', _, by omega, by go_num, rfl, Lib.hid HM.out, Lib.hid HW7.out⟩, by simp [intOf]; omega⟩
    · have hin : i = n + 1 := by omega
      have d1 : decide ((i : Int) ≤ (n : Int)) = false := decide_eq_false (by omega)
      have d2 : decide (i ≤ n) = false := decide_eq_false hlt
      have HIN := Lib.hid hin
      clear hin hlt
      go_wp2
      go_ret
      exact ⟨td, tp, vs, by rw [← HIN.out]; rfl, by rw [← HIN.out]; exact HT.out, HB.out⟩
end Go.Proofs.Ythgdanbkngnckaa
namespace Go.Proofs.Ythgdanbkngnckaa
open Go.RowKit Go.Shelf Said

set_option maxHeartbeats 2000000 in
set_option maxRecDepth 100000 in
theorem refOf_any (a b : ByteArray) (w : World) (ha : a.size ≤ 1000) (hb : b.size ≤ 1000) :
    Calls Try.prog 71 #[.string a, .string b] w fun e w' => e = .returned (.int .i64 ((lev a.data.toList b.data.toList : Nat) : Int)) ∧ Below w.heap.size w w' := by
  obtain ⟨n, hn⟩ : ∃ n, n = a.size := ⟨_, rfl⟩
  obtain ⟨m, hm⟩ : ∃ m, m = b.size := ⟨_, rfl⟩
  obtain ⟨y, hy⟩ : ∃ y, lev a.data.toList b.data.toList = y := ⟨_, rfl⟩
  have QT := Lib.hid (table_any a b w ha hb)
  rw [hy]
  rw [← hn] at QT
  have es : (a.size : Int) = (n : Int) := by rw [hn]
  have et : (b.size : Int) = (m : Int) := by rw [hm]
  have HN := Lib.hid (And.intro hn (And.intro hm hy))
  have i1 : (n : Int) < (n : Int) + 1 := by omega
  have i2 : (m : Int) < (m : Int) + 1 := by omega
  clear hn hm hy
  go_enter Try.func71, Try.ntmps71
  go_wp2_with (go_at_call 84; (with_reducible refine QT.out.mono ?_); rintro e w1 ⟨td, tp, vs, rfl, ht, hb1⟩; obtain ⟨gt, gr, gc, htd, kt, kr⟩ := ht.cell (m := m) (by rw [ba_length, HN.out.2.1]) n (by omega); subst htd; have km := kr m (Nat.le_refl _); rw [show dd a.data.toList b.data.toList n m = y by rw [HN.out.1, HN.out.2.1, show a.size = a.data.toList.length from (ba_length a).symm, show b.size = b.data.toList.length from (ba_length b).symm, dd_all]; exact HN.out.2.2] at km; have HB1 := Lib.hid hb1; clear kr ht hb1)
  go_ret
  exact ⟨rfl, HB1.out⟩

theorem belowNr {B : Nat} {a w : World} (h : Below B a w) (q : Nat) : Below B a (w.drewN q) := ⟨h.os, h.tape, h.output, h.size, h.block⟩

def behT (q t : List UInt8) (k : Nat) : List Nat := (List.range k).map fun i => lev (q.take i) t
theorem behT_succ (q t : List UInt8) (k : Nat) : behT q t (k + 1) = behT q t k ++ [lev (q.take k) t] := by
  unfold behT
  rw [List.range_succ, List.map_append]
  rfl

set_option maxHeartbeats 2000000 in
set_option maxRecDepth 100000 in
theorem behind_any (q t : ByteArray) (w : World) (hq : q.size ≤ 1000) (ht : t.size ≤ 1000) :
    Calls Try.prog 51 #[.string q, .string t] w fun e w' => ∃ v, e = .returned v ∧ w'.ownsRow w.heap.size 3 1 v (q.size + 1) (nats (rowT q.data.toList t.data.toList)) ∧ Below w.heap.size w w' := by
  obtain ⟨n, hn⟩ : ∃ n, n = q.size := ⟨_, rfl⟩
  rw [← hn] at hq ⊢
  have es : (q.size : Int) = (n : Int) := by rw [hn]
  have HN := Lib.hid hn
  clear hn
  obtain ⟨j8, gi, gz0, gz1, gz2⟩ := info_parts iInt
  have HJ := Lib.hid (And.intro gi (And.intro gz0 (And.intro gz1 gz2)))
  clear gi gz0 gz1 gz2
  go_enter Try.func51, Try.ntmps51
  go_wp2
  go_loopw [5, 6] (fun s5 s6 wr => ∃ (k : Nat) (ad : Option Addr) (c : Nat), k ≤ n + 1 ∧ s6 = .int .i64 (k : Int) ∧ s5 = .slice ad k c ∧ Hid (wr.ownsRow w.heap.size 3 1 (.slice ad k c) k (nats (behT q.data.toList t.data.toList k))) ∧ Hid (Below w.heap.size w wr)) (fun _ s6 _ => n + 1 - (intOf s6).toNat)
  case atStart => exact ⟨0, none, 0, by omega, rfl, rfl, Lib.hid (World.ownsRow_nil w w.heap.size 3 1), Lib.hid (Below.refl _ _)⟩
  case round =>
    obtain ⟨k, ad, c, hk, rfl, rfl, HO, HB⟩ := hrel
    by_cases hlt : k ≤ n
    · have d1 : decide ((k : Int) ≤ (n : Int)) = true := decide_eq_true (by omega)
      have d2 : decide (k ≤ n) = true := decide_eq_true hlt
      obtain ⟨y, hy⟩ : ∃ y, lev (q.data.toList.take k) t.data.toList = y := ⟨_, rfl⟩
      have QO : Hid (∀ W, Calls Try.prog 71 #[.string (q.extract 0 k), .string t] W fun e w' => e = .returned (.int .i64 (y : Int)) ∧ Below W.heap.size W w') := Lib.hid fun W => by
        have h := refOf_any (q.extract 0 k) t W (by rw [ByteArray.size_extract]; have := HN.out; omega) ht
        rw [ba_extract, List.drop_zero, Nat.sub_zero, hy] at h
        exact h
      have HY := Lib.hid hy
      have ik : (k : Int) ≤ (n : Int) := by omega
      clear hy
      go_wp2_with (first
        | (go_at_call 71; (with_reducible refine (QO.out _).mono ?_); rintro e w2 ⟨rfl, hb2⟩; have HB2 := Lib.hid (HB.out.trans (hb2.mono HB.out.size)); have HO2 := Lib.hid (owns_below HO.out hb2); have HBS : Hid (w.heap.size ≤ (w2.alloc (.cells #[.int .i64 (y : Int)] 3)).heap.size) := Lib.hid (by have := HB2.out.size; simp; omega); clear hb2)
        | (at_builtin; refine wpList_append_own _ rfl _ _ 57 rfl w.heap.size 3 j8 (.int .i64 0) 1 8 Try.underlying57 HJ.out.1 HJ.out.2.1 HJ.out.2.2.1 HJ.out.2.2.2 rfl (by decide) _ _ _ rfl (HO2.out.alloc _) ⟨w2.heap.size, 0, none⟩ 1 1 [.int .i64 (y : Int)] rfl rfl (news_one _ _ _) (oneCell_one rfl) (by unfold maxLen; omega) (by omega) HBS.out ?_; intro v' w7 hown7 hg7 _; obtain ⟨td', tp', hv7⟩ := owns_slice hown7; subst hv7))
      have hb7 : Below w2.heap.size w2 (w2.alloc (.cells #[.int .i64 (y : Int)] 3)) := below_alloc w2 _
      have HW7 := Lib.hid ((HB2.out.trans (hb7.mono HB2.out.size)).grown hg7 HBS.out (fun k e => (owns_cells (owns_below HO2.out hb7) k e).1))
      have HO7 := Lib.hid hown7
      clear hown7 hg7 hb7
      exact ⟨⟨k + 1, td', tp', by omega, by go_num, rfl, Lib.hid (by
        have h := HO7.out
        rw [show nats (behT q.data.toList t.data.toList k) ++ [.int .i64 (y : Int)] = nats (behT q.data.toList t.data.toList (k + 1)) by rw [behT_succ, HY.out]; simp [nats]] at h
        exact h), Lib.hid HW7.out⟩, by simp [intOf]; omega⟩
    · have hkn : k = n + 1 := by omega
      have d1 : decide ((k : Int) ≤ (n : Int)) = false := decide_eq_false (by omega)
      have d2 : decide (k ≤ n) = false := decide_eq_false hlt
      have HK := Lib.hid hkn
      clear hkn hlt
      go_wp2
      go_ret
      refine ⟨_, rfl, ?_, HB.out⟩
      have h := HO.out
      rw [HK.out] at h
      rw [HK.out]
      have e : behT q.data.toList t.data.toList (n + 1) = rowT q.data.toList t.data.toList := by
        unfold behT rowT
        rw [ba_length, HN.out]
      rw [e] at h
      exact h
end Go.Proofs.Ythgdanbkngnckaa
namespace Go.Proofs.Ythgdanbkngnckaa
open Go.RowKit Go.Shelf

attribute [local go_sem] Oper.semAt_some

/-- What holds between two rows. -/
structure WiI (a b : ByteArray) (k : Int) (w : World) (b0 b1 b2 b3 b4 b5 b6 : Nat) (j : Nat) (W : World) : Prop where
  x0 : Boxed W b0 9 (.string a)
  x1 : Boxed W b1 3 (.int .i64 k)
  x2 : Boxed W b2 3 (.int .i64 0)
  x3 : Boxed W b3 4 (.bool false)
  x4 : Boxed W b4 3 (.int .i64 ((if j = 0 then 0 else lev a.data.toList (b.data.toList.take (j - 1)) : Nat) : Int))
  x5 : Boxed W b5 9 (.string a)
  x6 : Boxed W b6 9 (.string b)
  bel : Below w.heap.size w W

theorem WiI.turned {a b : ByteArray} {k : Int} {w : World} {b0 b1 b2 b3 b4 b5 b6 j : Nat} {W W' : World} {row : Option Nat} (h : WiI a b k w b0 b1 b2 b3 b4 b5 b6 j W) (hg : W.grownBy W' row) (hr : ∀ r, row = some r → (r ≠ b0 ∧ r ≠ b1 ∧ r ≠ b2 ∧ r ≠ b3 ∧ r ≠ b4 ∧ r ≠ b5 ∧ r ≠ b6) ∧ w.heap.size ≤ r) : WiI a b k w b0 b1 b2 b3 b4 b5 b6 j W' := by
  have h' := fun (x : Nat) (e : some x = row) => (hr x e.symm).1
  exact ⟨h.x0.kept hg (fun e => (h' b0 e).1 rfl), h.x1.kept hg (fun e => (h' b1 e).2.1 rfl), h.x2.kept hg (fun e => (h' b2 e).2.2.1 rfl), h.x3.kept hg (fun e => (h' b3 e).2.2.2.1 rfl), h.x4.kept hg (fun e => (h' b4 e).2.2.2.2.1 rfl), h.x5.kept hg (fun e => (h' b5 e).2.2.2.2.2.1 rfl), h.x6.kept hg (fun e => (h' b6 e).2.2.2.2.2.2 rfl), h.bel.grown hg h.bel.size (fun k e => (hr k e).2)⟩

/-- What holds when it has been left. -/
structure WiX (a b : ByteArray) (k : Int) (w : World) (b2 b3 top : Nat) (c : Code) (W : World) : Prop where
  hc : c = .ret
  x2 : Boxed W b2 3 (.int .i64 0)
  x3 : Boxed W b3 4 (.bool false)
  far : b2 < top ∧ b3 < top ∧ w.heap.size ≤ top
  bel : Below w.heap.size w W
  no : ¬ ((lev a.data.toList b.data.toList : Nat) : Int) ≤ k

theorem WiX.turned {a b : ByteArray} {k : Int} {w : World} {b2 b3 top : Nat} {c : Code} {W W' : World} {r : Nat} (h : WiX a b k w b2 b3 top c W) (hg : W.grownBy W' (some r)) (hr : top ≤ r) : WiX a b k w b2 b3 top c W' :=
  ⟨h.hc, h.x2.kept hg (fun e => by injection e with e; have := h.far; omega), h.x3.kept hg (fun e => by injection e with e; have := h.far; omega), h.far, h.bel.grown hg h.bel.size (fun k e => by cases e; have := h.far; omega), h.no⟩

/-- What Within answers. -/
def within (a b : List UInt8) (k : Int) : Value := .tuple #[.int .i64 (if ((lev a b : Nat) : Int) ≤ k then ((lev a b : Nat) : Int) else 0), .bool (decide (((lev a b : Nat) : Int) ≤ k))]

theorem seven_boxes (w : World) (v0 v1 v2 v3 v4 v5 v6 : Value) (t0 t1 t2 t3 t4 t5 t6 : TypeId) (W : World) (e : W = ((((((w.alloc (.cells #[v0] t0)).alloc (.cells #[v1] t1)).alloc (.cells #[v2] t2)).alloc (.cells #[v3] t3)).alloc (.cells #[v4] t4)).alloc (.cells #[v5] t5)).alloc (.cells #[v6] t6)) :
    Boxed W w.heap.size t0 v0 ∧ Boxed W (w.heap.size + 1) t1 v1 ∧ Boxed W (w.heap.size + 1 + 1) t2 v2 ∧ Boxed W (w.heap.size + 1 + 1 + 1) t3 v3 ∧ Boxed W (w.heap.size + 1 + 1 + 1 + 1) t4 v4 ∧ Boxed W (w.heap.size + 1 + 1 + 1 + 1 + 1) t5 v5 ∧ Boxed W (w.heap.size + 1 + 1 + 1 + 1 + 1 + 1) t6 v6 ∧ Below w.heap.size w W ∧ W.heap.size = w.heap.size + 7 := by
  obtain ⟨W4, hW4⟩ : ∃ W4, W4 = (((w.alloc (.cells #[v0] t0)).alloc (.cells #[v1] t1)).alloc (.cells #[v2] t2)).alloc (.cells #[v3] t3) := ⟨_, rfl⟩
  obtain ⟨x0, x1, x2, x3, xb, xz⟩ := four_boxes w v0 v1 v2 v3 t0 t1 t2 t3 W4 hW4
  rw [← hW4] at e
  have l4 : ∀ {b : Nat} {t : TypeId} {v : Value}, Boxed W4 b t v → Boxed W b t v := fun {b t v} h => by rw [e]; exact ((h.alloc _).alloc _).alloc _
  refine ⟨l4 x0, l4 x1, l4 x2, l4 x3, ?_, ?_, ?_, ?_, ?_⟩
  · have h := ((Boxed.new W4 t4 v4).alloc (.cells #[v5] t5)).alloc (.cells #[v6] t6)
    rw [e]
    rw [xz] at h
    exact h
  · have h := (Boxed.new (W4.alloc (.cells #[v4] t4)) t5 v5).alloc (.cells #[v6] t6)
    rw [e]
    rw [World.size_alloc, xz] at h
    exact h
  · have h := Boxed.new ((W4.alloc (.cells #[v4] t4)).alloc (.cells #[v5] t5)) t6 v6
    rw [e]
    rw [World.size_alloc, World.size_alloc, xz] at h
    exact h
  · rw [e]
    exact ((xb.alloc (by omega) _).alloc (by simp; omega) _).alloc (by simp; omega) _
  · rw [e]
    simp
    omega

set_option maxRecDepth 100000 in
set_option maxHeartbeats 4000000 in
theorem within_in (n : Nat) (hn : 6 ≤ n) (a b : ByteArray) (k : Int) (w : World) (ha : a.size ≤ 1000) (hb : b.size ≤ 1000) :
    CallsIn Fence.wide n Try.prog 22 #[.string a, .string b, .int .i64 k] w fun e w' => e = .returned (within a.data.toList b.data.toList k) ∧ Below w.heap.size w w' := by
  have h1 : 1 ≤ n := by omega
  refine callsIn_of_wp_marks Try.func22 rfl trivial ?_ rfl
  simp only [Try.ntmps22, List.size_toArray, List.length_cons, List.length_nil, Nat.reduceAdd, Nat.reduceSub, Array.replicate_succ, Array.replicate_zero, List.push_toArray, List.append_toArray, List.nil_append, List.cons_append]
  gi_wp2_with (refine ⟨trivial, ?_⟩; gi_at_call 39; refine (callsIn_wide.2 (rows_any _ _ _)).mono ?_; rintro e w' ⟨rfl, rfl⟩)
  obtain ⟨W0, hW0⟩ : ∃ W0, W0 = ((((((w.alloc (.cells #[.string a] 9)).alloc (.cells #[.int .i64 k] 3)).alloc (.cells #[.int .i64 0] 3)).alloc (.cells #[.bool false] 4)).alloc (.cells #[.int .i64 0] 3)).alloc (.cells #[.string a] 9)).alloc (.cells #[.string b] 9) := ⟨_, rfl⟩
  obtain ⟨x0, x1, x2, x3, x4, x5, x6, xb, xz⟩ := seven_boxes w _ _ _ _ _ _ _ _ _ _ _ _ _ _ W0 hW0
  rw [← hW0]
  clear hW0
  obtain ⟨b0, e0⟩ : ∃ b0, b0 = w.heap.size := ⟨_, rfl⟩
  obtain ⟨b1, e1⟩ : ∃ b1, b1 = w.heap.size + 1 := ⟨_, rfl⟩
  obtain ⟨b2, e2⟩ : ∃ b2, b2 = w.heap.size + 1 + 1 := ⟨_, rfl⟩
  obtain ⟨b3, e3⟩ : ∃ b3, b3 = w.heap.size + 1 + 1 + 1 := ⟨_, rfl⟩
  obtain ⟨b4, e4⟩ : ∃ b4, b4 = w.heap.size + 1 + 1 + 1 + 1 := ⟨_, rfl⟩
  obtain ⟨b5, e5⟩ : ∃ b5, b5 = w.heap.size + 1 + 1 + 1 + 1 + 1 := ⟨_, rfl⟩
  obtain ⟨b6, e6⟩ : ∃ b6, b6 = w.heap.size + 1 + 1 + 1 + 1 + 1 + 1 := ⟨_, rfl⟩
  rw [← e6] at x6 ⊢
  rw [← e5] at x5 ⊢
  rw [← e4] at x4 ⊢
  rw [← e3] at x3 ⊢
  rw [← e2] at x2 ⊢
  rw [← e1] at x1 ⊢
  have hsz0 := xb.size
  have ne : b0 + 1 = b1 ∧ b1 + 1 = b2 ∧ b2 + 1 = b3 ∧ b3 + 1 = b4 ∧ b4 + 1 = b5 ∧ b5 + 1 = b6 ∧ b6 + 1 = W0.heap.size ∧ b0 = w.heap.size := by omega
  clear e1 e2 e3 e4 e5 e6
  rw [← e0] at x0
  have E0 := Lib.hid e0
  refine wpIn_range_foot h1 (gf := 56) (lb := #[.pointer (some ⟨b5, 0, none⟩), .pointer (some ⟨b6, 0, none⟩)]) rfl (enters_of Try.func56 (by kernel_rfl) rfl)
    (rows_iter (q := a) (t := b) (n - 1) (by omega) (fun j : Nat => j) (fun _ g => g = b4) W0 ha hb (s0 := 0) rfl) (fun s args W h => by obtain ⟨v, rfl, _⟩ := h; rfl) (WiI a b k w b0 b1 b2 b3 b4 b5 b6) (WiX a b k w b2 b3 W0.heap.size)
    (fun j a' W => ∃ ad c, Ints W (.slice ad (a.size + 1) c) (rowT a.data.toList (b.data.toList.take j)) ∧ a' = { tmps := #[.string a, .string b, .int .i64 k, .pointer (some ⟨w.heap.size, 0, none⟩), undef, .pointer (some ⟨b1, 0, none⟩), .pointer (some ⟨b2, 0, none⟩), .pointer (some ⟨b3, 0, none⟩), .pointer (some ⟨b4, 0, none⟩), .slice ad (a.size + 1) c, .string a, .string b, .func (.func 56) #[] #[.pointer (some ⟨b5, 0, none⟩), .pointer (some ⟨b6, 0, none⟩)], .slice ad (a.size + 1) c, undef, undef, undef, undef, undef, undef, undef, undef, undef, undef, undef, undef, undef], defers := [] })
    ?bi ?bx ?ba ?bm ?bf ?start ?assign ?body ?done ?stop
  case bi => exact fun j W W' row h hg hr => h.turned hg (fun r e => by have := hr r e; omega)
  case bx => exact fun c W W' h hg => h.turned hg (by omega)
  case ba =>
    rintro j a' W r o o' hr ho ⟨ad, c, hi, rfl⟩
    exact ⟨ad, c, ints_putObj hi hr ho, rfl⟩
  case bm => exact fun R j W h => ⟨h.1.x5, h.1.x6, fun g hg => by subst hg; exact h.1.x4.lt⟩
  case bf => exact fun g hg => by subst hg; omega
  case start => exact ⟨x0, x1, x2, x3, x4, x5, x6, xb⟩
  case assign =>
    rintro l j args W hI ⟨v, rfl, hin⟩
    obtain ⟨ad, c, rfl, -⟩ := id hin
    rw [rowT_length, ba_length] at hin ⊢
    gi_wp2
    exact ⟨⟨rfl, rfl, rfl, Nat.le_refl _, fun _ _ _ => rfl⟩, ad, c, hin, rfl⟩
  case body =>
    rintro l j a' W hnf hf hw2 hI ⟨ad, c, hin, rfl⟩
    have hlen : (rowT a.data.toList (b.data.toList.take j)).length = a.size + 1 := by rw [rowT_length, ba_length]
    have QL : Hid (∀ W', Below W.heap.size W W' → Calls Try.prog 40 #[.slice ad (a.size + 1) c] W' fun e w' => e = .returned (.int .i64 ((minT (rowT a.data.toList (b.data.toList.take j)) : Nat) : Int)) ∧ W' = w') := Lib.hid fun W' hb' => least_any (hin.below hb') (by omega) (by omega)
    obtain ⟨bb, oo, c', hv, hc⟩ := hin.some (by omega)
    rw [hlen] at hv hc
    injection hv with e1 e2 e3
    subst e1 e3
    have hcell := hc a.size (by omega)
    rw [rowT_at (by rw [ba_length]; exact Nat.le_refl _), show a.size = a.data.toList.length from (ba_length a).symm, List.take_length, ba_length] at hcell
    have k0 := hI.x0.cell
    rw [E0.out] at k0
    have k1 := hI.x1.cell
    have k2 := hI.x2.cell
    have f2 := hI.x2.frozen
    have k3 := hI.x3.cell
    have f3 := hI.x3.frozen
    have k4 := hI.x4.cell
    have f4 := hI.x4.frozen
    have il : (a.size : Int) < (a.size : Int) + 1 := by omega
    have HI := Lib.hid hI
    obtain ⟨y, hy⟩ : ∃ y, lev a.data.toList (b.data.toList.take j) = y := ⟨_, rfl⟩
    obtain ⟨m, hm⟩ : ∃ m, minT (rowT a.data.toList (b.data.toList.take j)) = m := ⟨_, rfl⟩
    rw [hy] at hcell
    rw [hm] at QL
    have HY := Lib.hid (And.intro hy hm)
    generalize ((if j = 0 then 0 else lev a.data.toList (b.data.toList.take (j - 1)) : Nat) : Int) = z5 at k4
    have HF := Lib.hid hf
    have hmo : Try.prog.follows .mixedOrders = true := by kernel_rfl
    clear hc hin hI hlen hy hf hm
    by_cases hmk : k < (m : Int)
    · have dk : decide (k < (m : Int)) = true := decide_eq_true hmk
      obtain ⟨W2, hW2⟩ : ∃ W2, W2 = ((W.setCell ⟨b2, 0, none⟩ (.int .i64 0)).setCell ⟨b3, 0, none⟩ (.bool false)).drew := ⟨_, rfl⟩
      have hfin : roundFoot W0.heap.size (fun _ g => g = b4) (fun s s' : Nat => s' = s + 1) (WiI a b k w b0 b1 b2 b3 b4 b5 b6) (WiX a b k w b2 b3 W0.heap.size) j W .ret { tmps := #[], defers := [] } W2 := by
        have hI := HI.out
        have g1 := grown_setCell W b2 0 (.int .i64 0)
        have g2 := grown_setCell (W.setCell ⟨b2, 0, none⟩ (.int .i64 0)) b3 0 (.bool false)
        have hl := hI.x4.lt
        have hz : (W.setCell ⟨b2, 0, none⟩ (.int .i64 0)).heap.size = W.heap.size := by simp
        have p3 : Boxed (W.setCell ⟨b2, 0, none⟩ (.int .i64 0)) b3 4 (.bool false) := hI.x3.kept g1 (fun e => by injection e; omega)
        have p2 : Boxed (W.setCell ⟨b2, 0, none⟩ (.int .i64 0)) b2 3 (.int .i64 0) := hI.x2.set _
        have blk : ∀ g, g ≠ b2 → g ≠ b3 → g < W.heap.size → W2.heap[g]? = W.heap[g]? := fun g h2 h3 hlt => by
          rw [hW2]
          show ((W.setCell ⟨b2, 0, none⟩ (.int .i64 0)).setCell ⟨b3, 0, none⟩ (.bool false)).heap[g]? = _
          rw [g2.block g (by omega) (fun e => h3 (by injection e)), g1.block g hlt (fun e => h2 (by injection e))]
        refine ⟨⟨blk _ (by omega) (by omega) (by omega), blk _ (by omega) (by omega) (by omega)⟩, rfl, ?_, ?_, ⟨by omega, by omega, by omega⟩, ?_, ?_⟩
        · rw [hW2]; exact boxed_drew (p2.kept g2 (fun e => by injection e; omega))
        · rw [hW2]; exact boxed_drew (p3.set _)
        · rw [hW2]; exact Below.drew ((hI.bel.grown g1 hI.bel.size (fun k e => by cases e; omega)).grown g2 (by have := hI.bel.size; omega) (fun k e => by cases e; omega))
        · intro hle
          have hd := lev_dead a.data.toList (b.data.toList.take j) (b.data.toList.drop j)
          rw [List.take_append_drop, HY.out.2] at hd
          omega
      have HFIN := Lib.hid hfin
      clear hfin
      gi_wp2
      gi_region_with_o (refine ⟨trivial, fun _ => by omega, ?_⟩; refine (CallsIn.inRound l (callsIn_wide.2 (QL.out _ (Below.drew (Below.refl _ _))))).mono ?_; rintro e w' ⟨rfl, rfl⟩)
      all_goals gi_wp2
      all_goals (
        have hfin := HFIN.out
        rw [hW2] at hfin
        exact hfin)
    · have dk : decide (k < (m : Int)) = false := decide_eq_false hmk
      obtain ⟨W2, hW2⟩ : ∃ W2, W2 = (W.setCell ⟨b4, 0, none⟩ (.int .i64 (y : Int))).drew := ⟨_, rfl⟩
      have hfin : roundFoot W0.heap.size (fun _ g => g = b4) (fun s s' : Nat => s' = s + 1) (WiI a b k w b0 b1 b2 b3 b4 b5 b6) (WiX a b k w b2 b3 W0.heap.size) j W .normal { tmps := #[], defers := [] } W2 := by
        have hI := HI.out
        have hg0 := grown_setCell W b4 0 (.int .i64 (y : Int))
        have hg : W.grownBy W2 (some b4) := by rw [hW2]; exact ⟨rfl, rfl, rfl, hg0.size, hg0.block⟩
        have hl := hI.x4.lt
        refine ⟨⟨(hg.block _ (by omega) (fun e => by injection e; omega)), (hg.block _ (by omega) (fun e => by injection e; omega))⟩, hg.size, fun r cs T fz hr hx => (hg.block r (Array.getElem?_eq_some_iff.1 hr).1 (fun e => by cases e; exact hx rfl)).trans hr, j + 1, rfl, fun g h => .inl h, ?_⟩
        refine ⟨hI.x0.kept hg (fun e => by injection e; omega), hI.x1.kept hg (fun e => by injection e; omega), hI.x2.kept hg (fun e => by injection e; omega), hI.x3.kept hg (fun e => by injection e; omega), ?_, hI.x5.kept hg (fun e => by injection e; omega), hI.x6.kept hg (fun e => by injection e; omega), hI.bel.grown hg hI.bel.size (fun k e => by cases e; omega)⟩
        rw [if_neg (by omega), Nat.add_sub_cancel, HY.out.1, hW2]
        exact boxed_drew (hI.x4.set _)
      have HFIN := Lib.hid hfin
      clear hfin
      gi_wp2
      gi_region_with_o (refine ⟨trivial, fun _ => by omega, ?_⟩; refine (CallsIn.inRound l (callsIn_wide.2 (QL.out _ (Below.drew (Below.refl _ _))))).mono ?_; rintro e w' ⟨rfl, rfl⟩)
      all_goals gi_wp2
      all_goals (
        have hfin := HFIN.out
        rw [hW2] at hfin
        exact hfin)
  case done =>
    rintro D j W hD hfin hI hK hnf
    have k4 := hI.x4.cell
    have k1 := hI.x1.cell
    have k2 := hI.x2.cell
    have f2 := hI.x2.frozen
    have k3 := hI.x3.cell
    have f3 := hI.x3.frozen
    rw [if_neg (by omega), List.take_of_length_le (by rw [ba_length]; omega)] at k4
    have HI := Lib.hid hI
    obtain ⟨z5, hz5⟩ : ∃ z5, lev a.data.toList b.data.toList = z5 := ⟨_, rfl⟩
    rw [hz5] at k4
    have HZ := Lib.hid hz5
    clear hI hz5
    have fin' : ∀ (x : Int) (y : Bool), ∃ W3, W3 = (((W.setCell ⟨b2, 0, none⟩ (.int .i64 x)).setCell ⟨b3, 0, none⟩ (.bool y)).putObj D (.deferred none)) ∧ (((W.setCell ⟨b2, 0, none⟩ (.int .i64 x)).setCell ⟨b3, 0, none⟩ (.bool y)).heap[D]? = some (.deferred (some []))) ∧ W3.cell? ⟨b2, 0, none⟩ = some (.int .i64 x) ∧ W3.cell? ⟨b3, 0, none⟩ = some (.bool y) ∧ Below w.heap.size w W3 := fun x y => by
      have hI := HI.out
      have g1 := grown_setCell W b2 0 (.int .i64 x)
      have g2 := grown_setCell (W.setCell ⟨b2, 0, none⟩ (.int .i64 x)) b3 0 (.bool y)
      have hKd := ((g2.block D (by have := (Array.getElem?_eq_some_iff.1 hK).1; have := g1.size; omega) (fun e => by injection e; omega)).trans (g1.block D (Array.getElem?_eq_some_iff.1 hK).1 (fun e => by injection e; omega))).trans hK
      have g3 := grownBy_putObj' ((W.setCell ⟨b2, 0, none⟩ (.int .i64 x)).setCell ⟨b3, 0, none⟩ (.bool y)) D (.deferred none)
      have p3 : Boxed (W.setCell ⟨b2, 0, none⟩ (.int .i64 x)) b3 4 (.bool false) := hI.x3.kept g1 (fun e => by injection e; omega)
      have p2 : Boxed (W.setCell ⟨b2, 0, none⟩ (.int .i64 x)) b2 3 (.int .i64 x) := hI.x2.set _
      refine ⟨_, rfl, hKd, ((p2.kept g2 (fun e => by injection e; omega)).kept g3 (fun e => by injection e; omega)).cell, ((p3.set _).kept g3 (fun e => by injection e; omega)).cell, ?_⟩
      exact (((hI.bel.grown g1 hI.bel.size (fun k e => by cases e; omega)).grown g2 (by have := hI.bel.size; have := g1.size; omega) (fun k e => by cases e; omega))).grown g3 (by have := hI.bel.size; have := g1.size; have := g2.size; omega) (fun k e => by cases e; omega)
    by_cases hk : k < (z5 : Int)
    · have dk : decide (k < (z5 : Int)) = true := decide_eq_true hk
      obtain ⟨W3, hW3, hK3, q2, q3, qb⟩ := fin' 0 false
      have HQ := Lib.hid (And.intro hK3 qb)
      clear fin' hK3 qb
      gi_wp2
      refine ⟨by simp, .inl ⟨_, _, rfl, run_takeDeferred HQ.out.1, ?_⟩⟩
      rw [← hW3]
      refine ⟨.tuple #[.int .i64 0, .bool false], by simp [results, Try.results22, go_sem, q2, q3], ?_, HQ.out.2⟩
      unfold within
      rw [HZ.out, if_neg (by omega), decide_eq_false (by omega)]
    · have dk : decide (k < (z5 : Int)) = false := decide_eq_false hk
      obtain ⟨W3, hW3, hK3, q2, q3, qb⟩ := fin' (z5 : Int) true
      have HQ := Lib.hid (And.intro hK3 qb)
      clear fin' hK3 qb
      gi_wp2
      refine ⟨by simp, .inl ⟨_, _, rfl, run_takeDeferred HQ.out.1, ?_⟩⟩
      rw [← hW3]
      refine ⟨.tuple #[.int .i64 (z5 : Int), .bool true], by simp [results, Try.results22, go_sem, q2, q3], ?_, HQ.out.2⟩
      unfold within
      rw [HZ.out, if_pos (by omega), decide_eq_true (by omega)]
  case stop =>
    rintro D c W hD hX hK
    obtain ⟨rfl, x2, x3, hfar, hbel, hno⟩ := hX
    gi_wp2
    have hg := grownBy_putObj' W D (.deferred none)
    have q2 := (x2.kept hg (fun e => by injection e; omega)).cell
    have q3 := (x3.kept hg (fun e => by injection e; omega)).cell
    refine ⟨by simp, .inl ⟨_, _, rfl, run_takeDeferred hK, ?_⟩⟩
    refine ⟨.tuple #[.int .i64 0, .bool false], by simp [results, Try.results22, go_sem, q2, q3], ?_, hbel.grown hg hbel.size (fun k e => by cases e; omega)⟩
    unfold within
    rw [if_neg (by omega), decide_eq_false (by omega)]

theorem within_any (a b : ByteArray) (k : Int) (w : World) (ha : a.size ≤ 1000) (hb : b.size ≤ 1000) :
    Calls Try.prog 22 #[.string a, .string b, .int .i64 k] w fun e w' => e = .returned (within a.data.toList b.data.toList k) ∧ Below w.heap.size w w' :=
  callsIn_wide.1 (within_in 6 (Nat.le_refl _) a b k w ha hb)
end Go.Proofs.Ythgdanbkngnckaa

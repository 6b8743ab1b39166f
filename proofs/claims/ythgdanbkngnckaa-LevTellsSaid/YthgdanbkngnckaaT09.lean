/-
  lev's step. lev's has, within, whole, least, can, ask, Dist, Can, Step.
-/
import Derived.Test.YthgdanbkngnckaaT08
import Derived.Test.YthgdanbkngnckaaT04
import Derived.RegionTactic
import Derived.ChangeAlike
import Derived.BigRegion
import Derived.Deep.CutRange
import Derived.Laws.EntriesVeiled
set_option linter.unusedVariables false
set_option linter.unusedSimpArgs false
namespace Go.Proofs.Ythgdanbkngnckaa
open Go.RowKit Go.Shelf Said

set_option maxRecDepth 100000 in
/-- A row of bytes as a string. -/
theorem byts_str {w : World} {v : Value} {l : List Nat} (h : Byts w v l) (hl : 0 < l.length) (hb : ∀ i, l.getD i 0 < 256) (T : TypeId) (hT : Try.prog.underlying T = some .string) : (convert 38 T v).run Try.prog w = .ok (.string (bin l)) w := by
  obtain ⟨b, o, c, rfl, hc⟩ := h.some hl
  have hcv := run_convert_bytes_arg (P := Try.prog) w 38 5 Try.underlying38 Try.underlying5 b o l.length c (l.map fun (x : Nat) => (x : Int)) (by simp) (fun i hi => by
    rw [hc i hi]
    congr 2
    simp [List.getD, hi]) T hT
  rw [hcv]
  congr 2
  apply ByteArray.ext
  apply Array.toList_inj.1
  rw [strOfNums_data, List.map_map]
  show _ = l.map UInt8.ofNat
  apply List.map_congr_left
  intro x hx
  obtain ⟨i, hi, e⟩ := List.getElem_of_mem hx
  have := hb i
  simp only [List.getD, hi, List.getElem?_eq_getElem, Option.getD_some, e] at this
  show UInt8.ofNat ((x : Int)).toNat = _
  congr 1

/-- The row that is being made: its numbers up to the place j are there. -/
def stK (q : List UInt8) (k : Nat) (r : List Nat) (c : UInt8) (j : Nat) : List Nat := (List.range (q.length + 1)).map fun i => if i ≤ j then cx q k r c i else 0
theorem stK_length (q : List UInt8) (k : Nat) (r : List Nat) (c : UInt8) (j : Nat) : (stK q k r c j).length = q.length + 1 := by simp [stK]
theorem stK_at (q : List UInt8) (k : Nat) (r : List Nat) (c : UInt8) (j : Nat) (h : j ≤ q.length) : (stK q k r c j).getD j 0 = cx q k r c j := by
  unfold stK
  simp [List.getD, show j < q.length + 1 by omega]
theorem stK_all (q : List UInt8) (k : Nat) (r : List Nat) (c : UInt8) : stK q k r c q.length = stepL q k r c := by
  rw [stepL_map]
  unfold stK
  apply List.map_congr_left
  intro i hi
  rw [if_pos (by have := List.mem_range.1 hi; omega)]
theorem stK_set (q : List UInt8) (k : Nat) (r : List Nat) (c : UInt8) (j : Nat) : (stK q k r c j).set (j + 1) (cx q k r c (j + 1)) = stK q k r c (j + 1) := by
  unfold stK
  apply List.ext_getElem
  · simp
  · intro i h1 h2
    simp only [List.length_set, List.length_map, List.length_range] at h1
    by_cases e : j + 1 = i
    · subst e
      simp
    · rw [List.getElem_set_ne e]
      simp only [List.getElem_map, List.getElem_range]
      by_cases h : i ≤ j
      · rw [if_pos h, if_pos (by omega)]
      · rw [if_neg h, if_neg (by omega)]
theorem stK_zero (q : List UInt8) (k : Nat) (r : List Nat) (c : UInt8) : (List.replicate (q.length + 1) 0).set 0 (cx q k r c 0) = stK q k r c 0 := by
  unfold stK
  apply List.ext_getElem
  · simp
  · intro i h1 h2
    by_cases e : 0 = i
    · subst e
      simp
    · rw [List.getElem_set_ne e]
      simp
      omega
theorem rep_getD0 (m i : Nat) : (List.replicate m 0).getD i 0 = 0 := by
  by_cases h : i < m <;> simp [List.getD, h]

structure StepI (w : World) (p : Nat) (s : ByteArray) (c : UInt8) (b0 b1 b2 g b5 n : Nat) (t : List Nat) (W : World) : Prop where
  x1 : Boxed W b1 32 (.string s)
  x2 : Boxed W b0 26 (.pointer (some ⟨p, 0, none⟩))
  x3 : Boxed W b2 5 (.int .u8 (c.toNat : Int))
  x5 : Boxed W b5 38 (.slice (some ⟨g, 0, none⟩) n n)
  row : W.ownsRow w.heap.size 5 1 (.slice (some ⟨g, 0, none⟩) n n) n (u8s t)
  bel : Below w.heap.size w W
  hg : w.heap.size ≤ g
  ne : b2 ≠ g

theorem StepI.below {w : World} {p : Nat} {s : ByteArray} {c : UInt8} {b0 b1 b2 g b5 n : Nat} {t : List Nat} {W W' : World} (h : StepI w p s c b0 b1 b2 g b5 n t W) (hb : Below W.heap.size W W') : StepI w p s c b0 b1 b2 g b5 n t W' := by
  refine ⟨boxed_below h.x1 hb, boxed_below h.x2 hb, boxed_below h.x3 hb, boxed_below h.x5 hb, ?_, h.bel.trans (hb.mono h.bel.size), h.hg, h.ne⟩
  refine h.row.kept (row := none) ⟨hb.os, hb.tape, hb.output, hb.size, fun k hk _ => hb.block k hk⟩ ?_
  exact .inr (by simp [Value.ownBlock])
theorem StepI.store {w : World} {p : Nat} {s : ByteArray} {c : UInt8} {b0 b1 b2 g b5 n : Nat} {t : List Nat} {W : World} (h : StepI w p s c b0 b1 b2 g b5 n t W) (i x : Nat) : StepI w p s c b0 b1 b2 g b5 n (t.set i x) (W.setCell ⟨g, i, none⟩ (.int .u8 (x : Int))) := by
  obtain ⟨s1, s2⟩ := h.row.stored i (.int .u8 (x : Int))
  rw [u8s_set] at s1
  have off : ∀ T, 5 ≠ T → OffT W (some g) T := fun T hT => off_cells (B := 0) (T := 5) (fun r e => by
    obtain ⟨h1, h2⟩ := owns_cells h.row r (by rw [← e]; rfl)
    exact ⟨Nat.zero_le _, h2⟩) hT
  refine ⟨?_, ?_, ?_, ?_, s1, h.bel.grown s2 h.bel.size (fun k e => by cases e; exact h.hg), h.hg, h.ne⟩
  all_goals first
    | exact boxed_off h.x1 s2 (off _ (by decide))
    | exact boxed_off h.x2 s2 (off _ (by decide))
    | exact h.x3.kept s2 (fun e => h.ne (by injection e))
    | exact boxed_off h.x5 s2 (off _ (by decide))

set_option maxHeartbeats 2000000 in
set_option maxRecDepth 100000 in
theorem step_any {q s : ByteArray} {p k : Nat} {w : World} (hA : AutoAt w p q k) (hk : k ≤ 3) (c : UInt8) (hq : q.size ≤ 1000000) (hs : IsL q.data.toList k (nums s)) :
    Calls Try.prog 34 #[.pointer (some ⟨p, 0, none⟩), .string s, .int .u8 (c.toNat : Int)] w fun e w' => e = .returned (.string (bin (stepL q.data.toList k (nums s) c))) ∧ Below w.heap.size w w' := by
  obtain ⟨i0, hi, hz0, hz1, hz2⟩ := info_parts i5
  have hm0 : s.size = q.size + 1 := by rw [← nums_length, hs.1, ba_length]
  have hs0 : ∀ h : 0 < s.size, (s[0]'h).toNat = (nums s).getD 0 0 := fun h => by rw [nums_at s h]
  obtain ⟨y, hy⟩ : ∃ y, (nums s).getD 0 0 = y := ⟨_, rfl⟩
  have hyb : y ≤ 4 := by rw [← hy]; have := hs.2 0; omega
  rw [hy] at hs0
  have HY := Lib.hid hy
  have HI := Lib.hid (And.intro hi (And.intro hz0 (And.intro hz1 hz2)))
  have HA := Lib.hid hA
  have HS := Lib.hid hs
  obtain ⟨m, hm⟩ : ∃ m, m = s.size := ⟨_, rfl⟩
  have HQ : Hid (m = q.size + 1) := Lib.hid (by omega)
  have HM := Lib.hid hm
  have ms : (s.size : Int) = (m : Int) := by omega
  have msn : s.size = m := by omega
  have H1 := Lib.hid (((((Below.refl w.heap.size w).alloc (Nat.le_refl _) (.cells #[.pointer (some ⟨p, 0, none⟩)] 26)).alloc (by simp) (.cells #[.string s] 32)).alloc (by simp; omega) (.cells #[.int .u8 (c.toNat : Int)] 5)))
  clear hi hz0 hz1 hz2 hA hs hy hm0 hm ms
  go_enter Try.func34, Try.ntmps34
  go_wp2_with ((refine wpList_make_full _ rfl _ _ 38 rfl w.heap.size 5 i0 (.int .u8 0) 1 Try.underlying38 HI.out.1 HI.out.2.1 HI.out.2.2.1 .i64 .i64 _ _ m rfl rfl (by first | rfl | go_num) (by first | rfl | go_num) (by rw [HI.out.2.2.2]; have := HQ.out; omega) (by unfold maxLen; have := HQ.out; omega) (by simp; omega) ?_); intro w1 hr hg)
  obtain ⟨W0, hW0⟩ : ∃ W0, W0 = ((w.alloc (.cells #[.pointer (some ⟨p, 0, none⟩)] 26)).alloc (.cells #[.string s] 32)).alloc (.cells #[.int .u8 (c.toNat : Int)] 5) := ⟨_, rfl⟩
  have x1 : Boxed W0 w.heap.size 26 (.pointer (some ⟨p, 0, none⟩)) := by rw [hW0]; exact ((Boxed.new w 26 _).alloc _).alloc _
  have x2 : Boxed W0 (w.heap.size + 1) 32 (.string s) := by
    rw [hW0]; have := (Boxed.new (w.alloc (.cells #[.pointer (some ⟨p, 0, none⟩)] 26)) 32 (.string s)).alloc (.cells #[.int .u8 (c.toNat : Int)] 5); simpa only [World.size_alloc] using this
  have x3 : Boxed W0 (w.heap.size + 1 + 1) 5 (.int .u8 (c.toNat : Int)) := by
    rw [hW0]; have := (Boxed.new ((w.alloc (.cells #[.pointer (some ⟨p, 0, none⟩)] 26)).alloc (.cells #[.string s] 32)) 5 (.int .u8 (c.toNat : Int))); simpa only [World.size_alloc] using this
  have hb0 : Below w.heap.size w W0 := by rw [hW0]; exact H1.out
  rw [← hW0] at hr hg
  have hsz : w.heap.size + 3 = W0.heap.size := by rw [hW0]; simp
  have hgs := hg.size
  have hb1 : Below w.heap.size w w1 := hb0.grown hg (by omega) (fun k e => by cases e)
  obtain ⟨b1, hb1'⟩ : ∃ b1, b1 = w.heap.size + 1 := ⟨_, rfl⟩
  obtain ⟨b2, hb2⟩ : ∃ b2, b2 = w.heap.size + 1 + 1 := ⟨_, rfl⟩
  obtain ⟨g, hgw⟩ : ∃ g, g = w.heap.size + 1 + 1 + 1 := ⟨_, rfl⟩
  rw [show W0.heap.size = g by omega] at hr
  obtain ⟨W4, hW4⟩ : ∃ W4, W4 = w1.alloc (.cells #[.slice (some ⟨g, 0, none⟩) m m] 38) := ⟨_, rfl⟩
  obtain ⟨b5, hb5⟩ : ∃ b5, b5 = w1.heap.size := ⟨_, rfl⟩
  have hb14 : Below w1.heap.size w1 W4 := by rw [hW4]; exact below_alloc _ _
  have N0 : StepI w p s c w.heap.size b1 b2 g b5 m (List.replicate m 0) W4 := by
    have ef : ∀ {T : TypeId} {v : Value} {bb : Nat}, Boxed W0 bb T v → Boxed W4 bb T v := fun {T v bb} h => boxed_below (h.kept hg (by simp)) hb14
    refine ⟨by rw [hb1']; exact ef x2, ef x1, by rw [hb2]; exact ef x3, by rw [hW4, hb5]; exact Boxed.new w1 _ _, ?_, hb1.trans (hb14.mono hb1.size), by omega, by omega⟩
    have e : (madeCells (Value.int .u8 0).cells (m * 1)).toList = u8s (List.replicate m 0) := by
      rw [show (Value.int .u8 0).cells = #[.int .u8 0] from rfl, toList_madeCells_one, Nat.mul_one]
      simp [u8s]
    rw [e] at hr
    rw [hW4]
    exact hr.alloc _
  have HN0 := Lib.hid N0
  have HG := Lib.hid hgw
  have HB0 := Lib.hid (And.intro hb2 (And.intro hb1' hb5))
  clear hr hg x1 x2 x3 hb0 hsz hgs hb1 hb14 N0
  go_upto_region 2 with fail
  rw [← hgw, ← hW4, ← hb5, ← hb2, ← hb1']
  clear hgw hW4 hb5 hb2 hb1' hW0
  have mp : 0 < m := by have := HQ.out; omega
  have mp' : (0 : Int) < (m : Int) := by omega
  have hz : cx q.data.toList k (nums s) c 0 = cap k (y + 1) := by rw [cx, HY.out]
  have w1' : IntKind.u8.wrap ((y : Int) + 1) = ((y + 1 : Nat) : Int) := wrap8 (by omega)
  obtain ⟨z, hzz⟩ : ∃ z, cap k (y + 1) = z := ⟨_, rfl⟩
  rw [hzz] at hz
  have HZ := Lib.hid hz
  have HZZ := Lib.hid hzz
  clear hz hzz
  have HX0 : Hid (∀ W, Below W4.heap.size W4 W → (W.cell? ⟨b5, 0, none⟩ = some (.slice (some ⟨g, 0, none⟩) m m) ∧ W.cell? ⟨w.heap.size, 0, none⟩ = some (.pointer (some ⟨p, 0, none⟩)) ∧ W.cell? ⟨b1, 0, none⟩ = some (.string s) ∧ W.frozen? ⟨g, 0, none⟩ = false ∧ ∃ u, W.cell? ⟨g, 0, none⟩ = some (.int .u8 u)) ∧ Calls Try.prog 27 #[.pointer (some ⟨p, 0, none⟩), .int .u8 ((y + 1 : Nat) : Int)] W fun e w' => e = .returned (.int .u8 (z : Int)) ∧ Below W.heap.size W w') := Lib.hid fun W hb => by
    have N := HN0.out.below hb
    refine ⟨⟨N.x5.cell, N.x2.cell, N.x1.cell, N.row.frozenAt 0, (((List.replicate m 0).getD 0 0 : Nat) : Int), ?_⟩, ?_⟩
    · rw [N.row.cellAt 0 (by have := HQ.out; omega), u8s_at (by rw [List.length_replicate]; have := HQ.out; omega)]
    · rw [← HZZ.out]
      exact (capped_any (HA.out.below N.bel) hk).mono fun e w' h => ⟨h.1, h.2 ▸ Below.refl _ _⟩
  refine Said.region_tail (by kernel_rfl) 7 (by kernel_rfl) (by kernel_rfl) (by kernel_rfl) [.is (.slice (some ⟨g, 0, none⟩) m m), .is (.pointer (some ⟨p, 0, none⟩)), .is (.string s), .is (.int .u8 (y : Int)), .is (.int .u8 ((y + 1 : Nat) : Int)), .is (.int .u8 (z : Int)), .is (.pointer (some ⟨g, 0, none⟩))] ?_
  simp only [List.toList_toArray, List.take_succ_cons, List.take_zero, List.drop_succ_cons, List.drop_zero]
  iterate 5 (
    refine sq_pure (by rfl) (fun W hb _ => ?_) ?_
    · obtain ⟨⟨y1, y2, y3, -, -⟩, -⟩ := HX0.out W hb
      go_simp
      all_goals first | done | omega
    simp only [Act.put, List.setIfInBounds_toArray, List.set_cons_zero, List.set_cons_succ])
  refine sq_call (f := 27) (args := #[.pointer (some ⟨p, 0, none⟩), .int .u8 ((y + 1 : Nat) : Int)]) (by rfl) (fun W => by go_simp) (fun W hb _ => (HX0.out W hb).2) ?_
  simp only [Act.put, List.setIfInBounds_toArray, List.set_cons_zero, List.set_cons_succ]
  refine sq_pure (by rfl) (fun W hb _ => by (go_simp; all_goals first | done | omega)) ?_
  simp only [Act.put, List.setIfInBounds_toArray, List.set_cons_zero, List.set_cons_succ]
  refine sq_end (fun W9 hb9 hK9 => ?_)
  obtain ⟨⟨-, -, -, f9, u9, c9⟩, -⟩ := HX0.out W9 hb9
  have HN9 := Lib.hid ((HN0.out.below hb9).store 0 z)
  clear hK9 hb9
  go_wp2
  obtain ⟨W5, hW5⟩ : ∃ W5, W5 = W9.setCell ⟨g, 0, none⟩ (.int .u8 (z : Int)) := ⟨_, rfl⟩
  rw [← hW5] at HN9 ⊢
  clear hW5 f9 c9 mp mp' w1'
  have N1 : Hid (StepI w p s c w.heap.size b1 b2 g b5 m (stK q.data.toList k (nums s) c 0) W5) := Lib.hid (by
    have h1 := HN9.out
    have e : (List.replicate m 0).set 0 z = stK q.data.toList k (nums s) c 0 := by
      rw [← stK_zero, ba_length, HZ.out, HQ.out]
    rw [e] at h1
    exact h1)
  clear HN9 HX0
  go_loopw [9] (fun s9 wr => ∃ j : Nat, j ≤ q.size ∧ s9 = .int .i64 ((j : Int) + 1) ∧ Hid (StepI w p s c w.heap.size b1 b2 g b5 m (stK q.data.toList k (nums s) c j) wr)) (fun s9 _ => m - (intOf s9).toNat)
  case atStart => exact ⟨0, Nat.zero_le _, rfl, N1⟩
  case round =>
    obtain ⟨j, hj, rfl, HN⟩ := hrel
    have k5 := HN.out.x5.cell
    by_cases hlt : j < q.size
    · have e4 : decide ((j : Int) + 1 < (m : Int)) = true := by have := HQ.out; simp; omega
      have e5 : decide (j + 1 < m) = true := by have := HQ.out; simp; omega
      have il : (j : Int) + 1 < (m : Int) := by have := HQ.out; omega
      have HX : Hid (∀ W, Below wr.heap.size wr W → W.cell? ⟨b5, 0, none⟩ = some (.slice (some ⟨g, 0, none⟩) m m) ∧ Calls Try.prog 54 #[.int .i64 ((j : Int) + 1), .pointer (some ⟨b1, 0, none⟩), .pointer (some ⟨w.heap.size, 0, none⟩), .pointer (some ⟨b2, 0, none⟩), .pointer (some ⟨b5, 0, none⟩)] W fun e w' => e = .returned (.int .u8 ((cx q.data.toList k (nums s) c (j + 1) : Nat) : Int)) ∧ Below W.heap.size W w') := Lib.hid fun W hb => by
        have N := HN.out.below hb
        refine ⟨N.x5.cell, ?_⟩
        have hlen : (stK q.data.toList k (nums s) c j).length = m := by rw [stK_length, ba_length, HQ.out]
        have hin2 : Byts W (.slice (some ⟨g, 0, none⟩) m m) (stK q.data.toList k (nums s) c j) := byts_of_owns (by rw [hlen]; exact N.row)
        have hkk := stK_at q.data.toList k (nums s) c j (by rw [ba_length]; omega)
        have hcl := cx_le q.data.toList k (nums s) c j
        have h1 := lnum_any N.x1 N.x2 (HA.out.below N.bel) hk N.x3 N.x5 hin2 hlt rfl (by rw [nums_length, ← HM.out, HQ.out]) (by rw [hlen, HQ.out]) hq (by have := HS.out.2 j; omega) (by have := HS.out.2 (j + 1); omega) (by rw [hkk]; omega)
        rw [hkk] at h1
        exact h1
      have HSt : Hid (∀ W, Below wr.heap.size wr W → W.frozen? ⟨g, j + 1, none⟩ = false ∧ ∃ u, W.cell? ⟨g, j + 1, none⟩ = some (.int .u8 u)) := Lib.hid fun W hb => by
        have N := HN.out.below hb
        refine ⟨N.row.frozenAt (j + 1), (((stK q.data.toList k (nums s) c j).getD (j + 1) 0 : Nat) : Int), ?_⟩
        rw [N.row.cellAt (j + 1) (by have := HQ.out; omega), u8s_at (by rw [stK_length, ba_length]; omega)]
      obtain ⟨z', hz'⟩ : ∃ z', cx q.data.toList k (nums s) c (j + 1) = z' := ⟨_, rfl⟩
      rw [hz'] at HX
      have HZ' := Lib.hid hz'
      clear hz'
      go_upto_region 7 with fail
      clear k5
      refine Said.region_tail (by kernel_rfl) 6 (by kernel_rfl) (by kernel_rfl) (by kernel_rfl) [.is (.slice (some ⟨g, 0, none⟩) m m), .is (.int .i64 ((j : Int) + 1)), .is (.func (.func 54) #[] #[.pointer (some ⟨b1, 0, none⟩), .pointer (some ⟨w.heap.size, 0, none⟩), .pointer (some ⟨b2, 0, none⟩), .pointer (some ⟨b5, 0, none⟩)]), .is (.int .i64 ((j : Int) + 1)), .is (.int .u8 (z' : Int)), .is (.pointer (some ⟨g, j + 1, none⟩))] ?_
      simp only [List.toList_toArray, List.take_succ_cons, List.take_zero, List.drop_succ_cons, List.drop_zero]
      iterate 4 (
        refine sq_pure (by rfl) (fun W hb _ => ?_) ?_
        · have y1 := (HX.out W hb).1
          go_simp
        simp only [Act.put, List.setIfInBounds_toArray, List.set_cons_zero, List.set_cons_succ])
      refine sq_call (f := 54) (args := #[.int .i64 ((j : Int) + 1), .pointer (some ⟨b1, 0, none⟩), .pointer (some ⟨w.heap.size, 0, none⟩), .pointer (some ⟨b2, 0, none⟩), .pointer (some ⟨b5, 0, none⟩)]) (by rfl) (fun W => by go_simp) (fun W hb _ => (HX.out W hb).2) ?_
      simp only [Act.put, List.setIfInBounds_toArray, List.set_cons_zero, List.set_cons_succ]
      refine sq_pure (by rfl) (fun W hb _ => by (go_simp; all_goals first | done | omega)) ?_
      simp only [Act.put, List.setIfInBounds_toArray, List.set_cons_zero, List.set_cons_succ]
      refine sq_end (fun W9 hb9 hK9 => ?_)
      obtain ⟨f9, u9, c9⟩ := HSt.out W9 hb9
      have HN9 := Lib.hid ((HN.out.below hb9).store (j + 1) z')
      clear hK9 hb9
      go_wp2
      exact ⟨⟨j + 1, by omega, by go_num, Lib.hid (by have h9 := HN9.out; have e := stK_set q.data.toList k (nums s) c j; rw [HZ'.out] at e; rw [e] at h9; exact h9)⟩, by have := HQ.out; simp [intOf]; omega⟩
    · have hkn : j = q.size := by omega
      have e4 : decide ((j : Int) + 1 < (m : Int)) = false := by have := HQ.out; simp; omega
      have e5 : decide (j + 1 < m) = false := by have := HQ.out; simp; omega
      have HK := Lib.hid hkn
      have hcv : ∀ W, W = wr → (convert 38 32 (.slice (some ⟨g, 0, none⟩) m m)).run Try.prog W = .ok (.string (bin (stepL q.data.toList k (nums s) c))) W := by
        rintro W rfl
        have N := HN.out
        rw [hkn, show q.size = q.data.toList.length from (ba_length q).symm, stK_all] at N
        have hl := (stepL_is q.data.toList k (nums s) c).1
        refine byts_str (byts_of_owns (base := w.heap.size) ?_) (by rw [hl]; omega) (fun i => is_lt (stepL_is _ _ _ _) (by omega) i) _ Try.underlying32
        rw [hl, ba_length, ← HQ.out]
        exact N.row
      have hcv := hcv wr rfl
      clear hkn hlt
      go_wp2
      go_ret
      exact ⟨rfl, HN.out.bel⟩
end Go.Proofs.Ythgdanbkngnckaa
namespace Go.Proofs.Ythgdanbkngnckaa
open Go.RowKit Go.Shelf Said

/-- Is it a state? -/
def isS (q : ByteArray) (k : Nat) (s : ByteArray) : Bool := decide (s.size = q.size + 1 ∧ maxT (nums s) ≤ k + 1)
theorem isS_iff {q : ByteArray} {k : Nat} {s : ByteArray} : isS q k s = true ↔ IsL q.data.toList k (nums s) := by
  unfold isS IsL
  rw [decide_eq_true_eq, maxT_le, nums_length, ba_length]

set_option maxHeartbeats 2000000 in
set_option maxRecDepth 100000 in
theorem has_nil (s : ByteArray) (w : World) : Calls Try.prog 33 #[.pointer none, .string s] w fun e w' => e = .returned (.bool false) ∧ Below w.heap.size w w' := by
  go_enter Try.func33, Try.ntmps33
  go_upto_region 1 with fail
  refine Said.region (by kernel_rfl) (by kernel_rfl) (by kernel_rfl) [.is (.pointer none), .is (.bool false), .is (.bool false), .is undef, .is undef, .is undef, .is undef, .is undef, .is undef, .is undef, .is undef, .is undef, .is (.bool false), .is (.bool false), .is undef, .is undef, .is undef, .is undef, .is undef, .is undef, .is undef, .is undef, .is undef, .is (.bool false), .is (.bool false)] ?_
  simp only [List.toList_toArray]
  iterate 3 (
    refine sq_pure (by rfl) (fun W hb _ => ?_) ?_
    · go_simp
      all_goals first | done | omega
    simp only [Act.put, List.setIfInBounds_toArray, List.set_cons_zero, List.set_cons_succ])
  iterate 9 (
    refine sq_struck (by rfl) ?_
    simp only [Act.put, List.setIfInBounds_toArray, List.set_cons_zero, List.set_cons_succ])
  iterate 2 (
    refine sq_pure (by rfl) (fun W hb _ => ?_) ?_
    · go_simp
      all_goals first | done | omega
    simp only [Act.put, List.setIfInBounds_toArray, List.set_cons_zero, List.set_cons_succ])
  iterate 9 (
    refine sq_struck (by rfl) ?_
    simp only [Act.put, List.setIfInBounds_toArray, List.set_cons_zero, List.set_cons_succ])
  iterate 2 (
    refine sq_pure (by rfl) (fun W hb _ => ?_) ?_
    · go_simp
      all_goals first | done | omega
    simp only [Act.put, List.setIfInBounds_toArray, List.set_cons_zero, List.set_cons_succ])
  refine sq_end (fun W9 hb9 hK9 => ?_)
  have H9 := Lib.hid hb9
  clear hK9 hb9
  go_wp2
  go_ret
  exact ⟨rfl, H9.out⟩

set_option maxHeartbeats 2000000 in
set_option maxRecDepth 100000 in
theorem has_any {q s : ByteArray} {p k : Nat} {w : World} (hA : AutoAt w p q k) (hk : k ≤ 3) (hq : q.size ≤ 100000) (hs : s.size ≤ 1000000000000) :
    Calls Try.prog 33 #[.pointer (some ⟨p, 0, none⟩), .string s] w fun e w' => e = .returned (.bool (isS q k s)) ∧ Below w.heap.size w w' := by
  have HX : Hid (∀ W, Below w.heap.size w W → W.cell? ⟨p, 0, none⟩ = some (.string q) ∧ W.cell? ⟨p, 1, none⟩ = some (.int .u8 (k : Int))) := Lib.hid fun W hb => hA.below hb
  have w1 : IntKind.i64.wrap ((q.size : Int) + 1) = ((q.size + 1 : Nat) : Int) := by rw [IntWalk.i64_in _ (by omega)]; omega
  have wk : IntKind.u8.wrap ((k : Int) + 1) = ((k + 1 : Nat) : Int) := wrap8 (by omega)
  clear hA
  by_cases hl : s.size = q.size + 1
  · have e1 : ((s.size : Int) == ((q.size + 1 : Nat) : Int)) = true := by rw [hl]; simp
    have e2 : ((s.size : Int) == (q.size : Int) + 1) = true := by rw [hl]; simp
    have e3 : (s.size == q.size + 1) = true := by rw [hl]; simp
    obtain ⟨B, hB⟩ : ∃ B, isS q k s = B := ⟨_, rfl⟩
    have hBx : decide (((maxT (nums s) : Nat) : Int) ≤ ((k + 1 : Nat) : Int)) = B := by
      rw [← hB, isS]
      simp only [hl, true_and]
      congr 1
      exact propext ⟨fun h => by omega, fun h => by omega⟩
    rw [hB]
    obtain ⟨M, hM⟩ : ∃ M, maxT (nums s) = M := ⟨_, rfl⟩
    rw [hM] at hBx
    have hBn : decide (M ≤ k + 1) = B := by rw [← hBx]; congr 1; exact propext ⟨fun h => by omega, fun h => by omega⟩
    have hBi : decide ((M : Int) ≤ (k : Int) + 1) = B := by rw [← hBx]; congr 1
    have HM := Lib.hid hM
    have HL := Lib.hid hl
    clear hB hM hl
    go_enter Try.func33, Try.ntmps33
    go_upto_region 1 with fail
    refine Said.region (by kernel_rfl) (by kernel_rfl) (by kernel_rfl) [.is (.pointer (some ⟨p, 0, none⟩)), .is (.bool true), .is (.bool true), .is (.string s), .is (.int .i64 (s.size : Int)), .is (.pointer (some ⟨p, 0, none⟩)), .is (.pointer (some ⟨p, 0, none⟩)), .is (.pointer (some ⟨p, 0, none⟩)), .is (.string q), .is (.int .i64 (q.size : Int)), .is (.int .i64 ((q.size + 1 : Nat) : Int)), .is (.bool true), .is (.bool true), .is (.bool true),
      .is (.string s), .has (fun v W => Byts W v (nums s)), .is (.int .u8 (M : Int)), .is (.pointer (some ⟨p, 0, none⟩)), .is (.pointer (some ⟨p, 0, none⟩)), .is (.pointer (some ⟨p, 1, none⟩)), .is (.int .u8 (k : Int)), .is (.int .u8 ((k + 1 : Nat) : Int)), .is (.bool B), .is (.bool B), .is (.bool B)] ?_
    simp only [List.toList_toArray]
    iterate 15 (
      refine sq_pure (by rfl) (fun W hb _ => ?_) ?_
      · obtain ⟨y1, y2⟩ := HX.out W hb
        go_simp
        all_goals first | done | omega
      simp only [Act.put, List.setIfInBounds_toArray, List.set_cons_zero, List.set_cons_succ])
    refine sq_has (byts_mono _) (fun W hb _ => by
      have hcv := Lib.run_convert_string_bytes (P := Try.prog) W 32 38 5 s Try.underlying32 Try.underlying38 Try.underlying5
      exact step_value (v := .slice (some ⟨W.heap.size, 0, none⟩) s.size (grownCap W s.size 0 5)) (W' := Lib.bytesWorld W 5 s) (by rfl) (by go_simp) (below_conv W s) (byts_conv W s)) (fun v => ?_)
    simp only [Act.put, List.setIfInBounds_toArray, List.set_cons_zero, List.set_cons_succ]
    refine sq_call (f := 53) (args := #[v]) (by rfl) (fun W => by go_simp) (fun W hb hf => (max8_any (hf.1 (by kernel_rfl)) (by rw [nums_length, HL.out]; omega) (by rw [nums_length, HL.out]; omega)).mono fun e w' h => ⟨h.1.trans (by rw [HM.out]), h.2 ▸ Below.refl _ _⟩) ?_
    simp only [Act.put, List.setIfInBounds_toArray, List.set_cons_zero, List.set_cons_succ]
    iterate 8 (
      refine sq_pure (by rfl) (fun W hb _ => ?_) ?_
      · obtain ⟨y1, y2⟩ := HX.out W hb
        go_simp
        all_goals first | done | omega
      simp only [Act.put, List.setIfInBounds_toArray, List.set_cons_zero, List.set_cons_succ])
    refine sq_end (fun W9 hb9 hK9 => ?_)
    have H9 := Lib.hid hb9
    clear hK9 hb9
    go_wp2
    go_ret
    exact ⟨rfl, H9.out⟩
  · have hfalse : isS q k s = false := by simp [isS, hl]
    have e1 : ((s.size : Int) == ((q.size + 1 : Nat) : Int)) = false := by simp; omega
    have e2 : ((s.size : Int) == (q.size : Int) + 1) = false := by simp; omega
    have e3 : (s.size == q.size + 1) = false := by simp; omega
    rw [hfalse]
    clear hfalse hl
    go_enter Try.func33, Try.ntmps33
    go_upto_region 1 with fail
    refine Said.region (by kernel_rfl) (by kernel_rfl) (by kernel_rfl) [.is (.pointer (some ⟨p, 0, none⟩)), .is (.bool true), .is (.bool true), .is (.string s), .is (.int .i64 (s.size : Int)), .is (.pointer (some ⟨p, 0, none⟩)), .is (.pointer (some ⟨p, 0, none⟩)), .is (.pointer (some ⟨p, 0, none⟩)), .is (.string q), .is (.int .i64 (q.size : Int)), .is (.int .i64 ((q.size + 1 : Nat) : Int)), .is (.bool false), .is (.bool false), .is (.bool false),
      .is undef, .is undef, .is undef, .is undef, .is undef, .is undef, .is undef, .is undef, .is undef, .is (.bool false), .is (.bool false)] ?_
    simp only [List.toList_toArray]
    iterate 14 (
      refine sq_pure (by rfl) (fun W hb _ => ?_) ?_
      · obtain ⟨y1, y2⟩ := HX.out W hb
        go_simp
        all_goals first | done | omega
      simp only [Act.put, List.setIfInBounds_toArray, List.set_cons_zero, List.set_cons_succ])
    iterate 9 (
      refine sq_struck (by rfl) ?_
      simp only [Act.put, List.setIfInBounds_toArray, List.set_cons_zero, List.set_cons_succ])
    iterate 2 (
      refine sq_pure (by rfl) (fun W hb _ => ?_) ?_
      · go_simp
      simp only [Act.put, List.setIfInBounds_toArray, List.set_cons_zero, List.set_cons_succ])
    refine sq_end (fun W9 hb9 hK9 => ?_)
    have H9 := Lib.hid hb9
    clear hK9 hb9
    go_wp2
    go_ret
    exact ⟨rfl, H9.out⟩

/-- What within answers. -/
def withV (k n : Nat) : Value := .tuple #[.int .i64 ((if n ≤ k then n else 0 : Nat) : Int), .bool (decide (n ≤ k))]

set_option maxRecDepth 100000 in
theorem within_lev {p k n : Nat} {q : ByteArray} {w : World} (hA : AutoAt w p q k) (hk : k ≤ 3) (hn : n ≤ 255) :
    Calls Try.prog 55 #[.pointer (some ⟨p, 0, none⟩), .int .u8 (n : Int)] w fun e w' => e = .returned (withV k n) ∧ w = w' := by
  have c1 := hA.2
  unfold withV
  by_cases hx : n ≤ k
  · have e1 : decide ((n : Int) > (k : Int)) = false := by simp; omega
    have e2 : decide (k < n) = false := by simp; omega
    have e3 : IntKind.i64.wrap (n : Int) = (n : Int) := IntWalk.i64_in _ (by omega)
    have e4 : decide (n ≤ k) = true := by simp; omega
    rw [if_pos hx, e4]
    clear hA hx e4
    go_enter Try.func55, Try.ntmps55
    go_wp2
    go_ret2
    exact ⟨rfl, rfl⟩
  · have e1 : decide ((n : Int) > (k : Int)) = true := by simp; omega
    have e2 : decide (k < n) = true := by simp; omega
    have e4 : decide (n ≤ k) = false := by simp; omega
    rw [if_neg hx, e4]
    clear hA hx e4
    go_enter Try.func55, Try.ntmps55
    go_wp2
    go_ret2
    exact ⟨rfl, rfl⟩

set_option maxRecDepth 100000 in
theorem whole_any {q s : ByteArray} {p k : Nat} {w : World} (hA : AutoAt w p q k) (hk : k ≤ 3) (hs : IsL q.data.toList k (nums s)) (hq : q.size ≤ 100000) :
    Calls Try.prog 38 #[.pointer (some ⟨p, 0, none⟩), .string s] w fun e w' => e = .returned (withV k (wholeL (nums s))) ∧ w = w' := by
  have hz : s.size = q.size + 1 := by rw [← nums_length, hs.1, ba_length]
  have hlt := nums_lt s q.size
  have hn : wholeL (nums s) = (nums s).getD q.size 0 := by rw [wholeL, nums_length, hz]; rfl
  have hc := within_lev (n := wholeL (nums s)) hA hk (by rw [hn]; omega)
  have hat : ∀ h : q.size < s.size, (s[q.size]'h).toNat = wholeL (nums s) := fun h => by rw [hn, nums_at s h]
  obtain ⟨n, hnn⟩ : ∃ n, wholeL (nums s) = n := ⟨_, rfl⟩
  rw [hnn] at hc hat ⊢
  obtain ⟨u, b, hub⟩ : ∃ u b, withV k n = .tuple #[.int .i64 u, .bool b] := ⟨_, _, rfl⟩
  rw [hub] at hc ⊢
  clear hub
  have HC := Lib.hid hc
  have hm : (q.size : Int) < (s.size : Int) := by omega
  clear hA hs hlt hn hc hnn
  go_enter Try.func38, Try.ntmps38
  go_wp2_with (go_at_call 55; (with_reducible refine HC.out.mono ?_); rintro e w' ⟨rfl, rfl⟩)
  go_ret2
  exact ⟨rfl, rfl⟩

set_option maxRecDepth 100000 in
theorem least_lev {q s : ByteArray} {p k : Nat} {w : World} (hA : AutoAt w p q k) (hk : k ≤ 3) (hs : IsL q.data.toList k (nums s)) (hq : q.size ≤ 100000) :
    Calls Try.prog 41 #[.pointer (some ⟨p, 0, none⟩), .string s] w fun e w' => e = .returned (withV k (minT (nums s))) ∧ Below w.heap.size w w' := by
  have hl := hs.1
  rw [nums_length, ba_length] at hl
  have hb : minT (nums s) ≤ 255 := by have h1 := minT_le_at (l := nums s) (i := 0) (by rw [nums_length]; omega); have := nums_lt s 0; omega
  have hcv := Lib.run_convert_string_bytes (P := Try.prog) w 32 38 5 s Try.underlying32 Try.underlying38 Try.underlying5
  have hB := below_conv w s
  have hY := byts_conv w s
  obtain ⟨w1, hw1⟩ : ∃ w1, Lib.bytesWorld w 5 s = w1 := ⟨_, rfl⟩
  rw [hw1] at hcv hB hY
  have HM := Lib.hid (min8_any hY (by rw [nums_length]; omega) (by rw [nums_length]; omega))
  obtain ⟨n, hn⟩ : ∃ n, minT (nums s) = n := ⟨_, rfl⟩
  rw [hn] at HM hb ⊢
  have hc := within_lev (n := n) (hA.below hB) hk hb
  obtain ⟨u, b, hub⟩ : ∃ u b, withV k n = .tuple #[.int .i64 u, .bool b] := ⟨_, _, rfl⟩
  rw [hub] at hc ⊢
  clear hub
  have HC := Lib.hid hc
  clear hc
  have HB := Lib.hid hB
  clear hA hs hl hn hB hY hw1
  go_enter Try.func41, Try.ntmps41
  go_wp2_with (first | (go_at_call 60; (with_reducible refine HM.out.mono ?_); rintro e w' ⟨rfl, rfl⟩) | (go_at_call 55; (with_reducible refine HC.out.mono ?_); rintro e w' ⟨rfl, rfl⟩))
  go_ret2
  exact ⟨rfl, HB.out⟩

set_option maxRecDepth 100000 in
theorem can_lev {q s : ByteArray} {p k : Nat} {w : World} (hA : AutoAt w p q k) (hk : k ≤ 3) (hs : IsL q.data.toList k (nums s)) (hq : q.size ≤ 100000) :
    Calls Try.prog 36 #[.pointer (some ⟨p, 0, none⟩), .string s] w fun e w' => e = .returned (.bool (decide (minT (nums s) ≤ k))) ∧ Below w.heap.size w w' := by
  have hc := least_lev hA hk hs hq
  obtain ⟨b, hb⟩ : ∃ b, decide (minT (nums s) ≤ k) = b := ⟨_, rfl⟩
  obtain ⟨u, hub⟩ : ∃ u, withV k (minT (nums s)) = .tuple #[.int .i64 u, .bool b] := ⟨_, by rw [← hb]; rfl⟩
  rw [hub] at hc
  rw [hb]
  have HC := Lib.hid hc
  clear hA hs hc hub hb
  go_enter Try.func36, Try.ntmps36
  go_wp2_with (go_at_call 41; (with_reducible refine HC.out.mono ?_); rintro e w' ⟨rfl, HB⟩; replace HB := Lib.hid HB)
  go_ret
  exact ⟨rfl, HB.out⟩

/-- What ask answers, and what hangs on it. -/
def askV (q : ByteArray) (k : Nat) (s : ByteArray) (n : Nat) : Value := if isS q k s = true then withV k n else .tuple #[.int .i64 0, .bool false]
theorem askV_yes {q : ByteArray} {k : Nat} {s : ByteArray} {n : Nat} (h : IsL q.data.toList k (nums s)) : askV q k s n = withV k n := if_pos (isS_iff.2 h)
theorem askV_no {q : ByteArray} {k : Nat} {s : ByteArray} {n : Nat} (h : ¬ IsL q.data.toList k (nums s)) : askV q k s n = .tuple #[.int .i64 0, .bool false] := if_neg (fun e => h (isS_iff.1 e))

set_option maxRecDepth 100000 in
theorem ask_whole {q s : ByteArray} {p k : Nat} {w : World} (hA : AutoAt w p q k) (hk : k ≤ 3) (hq : q.size ≤ 10000) (hz : s.size ≤ 1000000000000) :
    Calls Try.prog 37 #[.pointer (some ⟨p, 0, none⟩), .string s, .func (.func 38) #[.pointer (some ⟨p, 0, none⟩)] #[]] w fun e w' => e = .returned (askV q k s (wholeL (nums s))) ∧ Below w.heap.size w w' := by
  have hh := has_any hA hk (by omega) hz
  by_cases his : isS q k s = true
  · rw [his] at hh
    have HH := Lib.hid hh
    have HC : Hid (∀ W, Below w.heap.size w W → Calls Try.prog 38 #[.pointer (some ⟨p, 0, none⟩), .string s] W fun e w' => e = .returned (withV k (wholeL (nums s))) ∧ W = w') := Lib.hid fun W hb => whole_any (hA.below hb) hk (isS_iff.1 his) (by omega)
    rw [askV_yes (isS_iff.1 his)]
    obtain ⟨u, b, hub⟩ : ∃ u b, withV k (wholeL (nums s)) = .tuple #[.int .i64 u, .bool b] := ⟨_, _, rfl⟩
    rw [hub] at HC ⊢
    clear hub hA hh his
    go_enter Try.func37, Try.ntmps37
    go_wp2_with (first | (go_at_call 33; (with_reducible refine HH.out.mono ?_); rintro e w' ⟨rfl, HB⟩; replace HB := Lib.hid HB) | (go_at_call 38; (with_reducible refine (HC.out _ HB.out).mono ?_); rintro e w' ⟨rfl, rfl⟩))
    go_ret2
    exact ⟨rfl, HB.out⟩
  · have hf : isS q k s = false := by simpa using his
    rw [hf] at hh
    have HH := Lib.hid hh
    rw [askV_no (fun h => his (isS_iff.2 h))]
    clear hA hh his hf
    go_enter Try.func37, Try.ntmps37
    go_wp2_with (go_at_call 33; (with_reducible refine HH.out.mono ?_); rintro e w' ⟨rfl, HB⟩; replace HB := Lib.hid HB)
    go_ret2
    exact ⟨rfl, HB.out⟩

set_option maxRecDepth 100000 in
theorem ask_least {q s : ByteArray} {p k : Nat} {w : World} (hA : AutoAt w p q k) (hk : k ≤ 3) (hq : q.size ≤ 10000) (hz : s.size ≤ 1000000000000) :
    Calls Try.prog 37 #[.pointer (some ⟨p, 0, none⟩), .string s, .func (.func 41) #[.pointer (some ⟨p, 0, none⟩)] #[]] w fun e w' => e = .returned (askV q k s (minT (nums s))) ∧ Below w.heap.size w w' := by
  have hh := has_any hA hk (by omega) hz
  by_cases his : isS q k s = true
  · rw [his] at hh
    have HH := Lib.hid hh
    have HC : Hid (∀ W, Below w.heap.size w W → Calls Try.prog 41 #[.pointer (some ⟨p, 0, none⟩), .string s] W fun e w' => e = .returned (withV k (minT (nums s))) ∧ Below w.heap.size w w') := Lib.hid fun W hb => (least_lev (hA.below hb) hk (isS_iff.1 his) (by omega)).mono fun e w' h => ⟨h.1, Below.next hb h.2⟩
    rw [askV_yes (isS_iff.1 his)]
    obtain ⟨u, b, hub⟩ : ∃ u b, withV k (minT (nums s)) = .tuple #[.int .i64 u, .bool b] := ⟨_, _, rfl⟩
    rw [hub] at HC ⊢
    clear hub hA hh his
    go_enter Try.func37, Try.ntmps37
    go_wp2_with (first | (go_at_call 33; (with_reducible refine HH.out.mono ?_); rintro e w' ⟨rfl, HB⟩; replace HB := Lib.hid HB) | (go_at_call 41; (with_reducible refine (HC.out _ HB.out).mono ?_); rintro e w' ⟨rfl, HD⟩; replace HD := Lib.hid HD))
    go_ret2
    exact ⟨rfl, HD.out⟩
  · have hf : isS q k s = false := by simpa using his
    rw [hf] at hh
    have HH := Lib.hid hh
    rw [askV_no (fun h => his (isS_iff.2 h))]
    clear hA hh his hf
    go_enter Try.func37, Try.ntmps37
    go_wp2_with (go_at_call 33; (with_reducible refine HH.out.mono ?_); rintro e w' ⟨rfl, HB⟩; replace HB := Lib.hid HB)
    go_ret2
    exact ⟨rfl, HB.out⟩

set_option maxRecDepth 100000 in
theorem dist_lev {q s : ByteArray} {p k : Nat} {w : World} (hA : AutoAt w p q k) (hk : k ≤ 3) (hq : q.size ≤ 10000) (hz : s.size ≤ 1000000000000) :
    Calls Try.prog 21 #[.pointer (some ⟨p, 0, none⟩), .string s] w fun e w' => e = .returned (askV q k s (wholeL (nums s))) ∧ Below w.heap.size w w' := by
  have hc := ask_whole hA hk hq hz
  obtain ⟨u, b, hub⟩ : ∃ u b, askV q k s (wholeL (nums s)) = .tuple #[.int .i64 u, .bool b] := by unfold askV; split <;> exact ⟨_, _, rfl⟩
  rw [hub] at hc ⊢
  have HC := Lib.hid hc
  clear hA hc hub
  go_enter Try.func21, Try.ntmps21
  go_wp2_with (go_at_call 37; (with_reducible refine HC.out.mono ?_); rintro e w' ⟨rfl, HB⟩; replace HB := Lib.hid HB)
  go_ret2
  exact ⟨rfl, HB.out⟩

/-- What Can answers. -/
def canB (q : ByteArray) (k : Nat) (s : ByteArray) : Bool := isS q k s && decide (minT (nums s) ≤ k)

set_option maxRecDepth 100000 in
theorem Can_lev {q s : ByteArray} {p k : Nat} {w : World} (hA : AutoAt w p q k) (hk : k ≤ 3) (hq : q.size ≤ 10000) (hz : s.size ≤ 1000000000000) :
    Calls Try.prog 23 #[.pointer (some ⟨p, 0, none⟩), .string s] w fun e w' => e = .returned (.bool (canB q k s)) ∧ Below w.heap.size w w' := by
  have hc := ask_least hA hk hq hz
  obtain ⟨b, hb⟩ : ∃ b, canB q k s = b := ⟨_, rfl⟩
  obtain ⟨u, hub⟩ : ∃ u, askV q k s (minT (nums s)) = .tuple #[.int .i64 u, .bool b] := by
    rw [← hb]; unfold askV canB
    cases isS q k s
    · exact ⟨_, rfl⟩
    · exact ⟨_, rfl⟩
  rw [hub] at hc
  rw [hb]
  have HC := Lib.hid hc
  clear hA hc hub hb
  go_enter Try.func23, Try.ntmps23
  go_wp2_with (go_at_call 37; (with_reducible refine HC.out.mono ?_); rintro e w' ⟨rfl, HB⟩; replace HB := Lib.hid HB)
  go_ret
  exact ⟨rfl, HB.out⟩

/-- What Step answers. -/
def StepS (q : ByteArray) (k : Nat) (s : ByteArray) (c : UInt8) : ByteArray := if isS q k s = true then bin (stepL q.data.toList k (nums s) c) else ⟨#[]⟩

set_option maxRecDepth 100000 in
theorem Step_lev {q s : ByteArray} {p k : Nat} {w : World} (hA : AutoAt w p q k) (hk : k ≤ 3) (c : UInt8) (hq : q.size ≤ 10000) (hz : s.size ≤ 1000000000000) :
    Calls Try.prog 16 #[.pointer (some ⟨p, 0, none⟩), .string s, .int .u8 (c.toNat : Int)] w fun e w' => e = .returned (.string (StepS q k s c)) ∧ Below w.heap.size w w' := by
  have hh := has_any hA hk (by omega) hz
  by_cases his : isS q k s = true
  · rw [his] at hh
    have HH := Lib.hid hh
    have HC : Hid (∀ W, Below w.heap.size w W → Calls Try.prog 34 #[.pointer (some ⟨p, 0, none⟩), .string s, .int .u8 (c.toNat : Int)] W fun e w' => e = .returned (.string (StepS q k s c)) ∧ Below w.heap.size w w') := Lib.hid fun W hb => (step_any (hA.below hb) hk c (by omega) (isS_iff.1 his)).mono fun e w' h => ⟨h.1.trans (by rw [StepS, if_pos his]), Below.next hb h.2⟩
    obtain ⟨S, hS⟩ : ∃ S, StepS q k s c = S := ⟨_, rfl⟩
    rw [hS] at HC ⊢
    clear hS hA hh his
    go_enter Try.func16, Try.ntmps16
    go_wp2_with (first | (go_at_call 33; (with_reducible refine HH.out.mono ?_); rintro e w' ⟨rfl, HB⟩; replace HB := Lib.hid HB) | (go_at_call 34; (with_reducible refine (HC.out _ HB.out).mono ?_); rintro e w' ⟨rfl, HD⟩; replace HD := Lib.hid HD))
    go_ret
    exact ⟨rfl, HD.out⟩
  · have hf : isS q k s = false := by simpa using his
    rw [hf] at hh
    have HH := Lib.hid hh
    rw [show StepS q k s c = ⟨#[]⟩ by rw [StepS, if_neg his]]
    clear hA hh his hf
    go_enter Try.func16, Try.ntmps16
    go_wp2_with (go_at_call 33; (with_reducible refine HH.out.mono ?_); rintro e w' ⟨rfl, HB⟩; replace HB := Lib.hid HB)
    go_ret
    exact ⟨rfl, HB.out⟩
end Go.Proofs.Ythgdanbkngnckaa

/-
  Of a sorted row of entries each word once: the library's CompactFunc, walked.
-/
import Derived.Test.YtfnmmnbndfdpiaaECompact
namespace Go.Proofs.Ytfnmmnbndfdpiaa
open Go.RowKit Go.Sort

theorem below_grown (w : World) (n : Nat) (os : Array Obj) : RowKit.Below w.heap.size w (grow (w.drewN n) os) := below_regrown w _ os

theorem EntAt.regrown {w : World} {b o : Nat} {e : Ent} (h : EntAt w b o e) :
    (∀ d os, (grow (redrawn w d) os).cell? ⟨b, o, none⟩ = some (.string e.word)) ∧ (∀ d os, (grow (redrawn w d) os).cell? ⟨b, o + 1, none⟩ = some (.int .u32 (e.weight : Int))) ∧ (∀ d os, (grow (redrawn w d) os).cell? ⟨b, o + 2, none⟩ = some (.bool e.gone)) :=
  ⟨fun d os => cell_regrown h.1 d os, fun d os => cell_regrown h.2.1 d os, fun d os => cell_regrown h.2.2 d os⟩

theorem eq_below (a b : Ent) (w : World) : Calls Try.prog 65 #[.agg (enc a).toArray, .agg (enc b).toArray] w fun e w' => e = .returned (.bool (decide (key a = key b))) ∧ RowKit.Below w.heap.size w w' := by
  refine (eq_any a b w).mono ?_
  rintro e w' ⟨rfl, q, os, rfl⟩
  exact ⟨rfl, below_grown w q os⟩

set_option maxHeartbeats 2000000 in
set_option maxRecDepth 100000 in
theorem compact_any (d : List Ent) (g cap B : Nat) (w0 w : World) (hB : B ≤ g) (hBw : B ≤ w.heap.size) (hb0 : RowKit.Below B w0 w) (hrow : RowW w g d) (hcap : d.length ≤ cap) (hlen : d.length ≤ 1000000) :
    Calls Try.prog 64 #[.slice (some ⟨g, 0, none⟩) d.length cap, .func (.func 65) #[] #[]] w fun e w' => e = .returned (.slice (some ⟨g, 0, none⟩) (onceE d).length cap) ∧ RowW w' g (onceE d) ∧ RowKit.Below B w0 w' := by
  by_cases h2 : d.length < 2
  · have ho : onceE d = d := by
      have := onceE_none (l := d) d.length (Nat.le_refl _) fun j h1 h2 => by omega
      rwa [List.take_length] at this
    rw [ho]
    have HR := Lib.hid hrow
    clear ho hrow
    go_enter Try.func64, Try.ntmps64
    go_wp2
    go_ret
    exact ⟨rfl, HR.out, hb0⟩
  · have mixed : Try.prog.follows .mixedOrders = true := by kernel_rfl
    have hg : g < w.heap.size := block_lt_of_cell (hrow.1 0 (by omega)).1
    have HR := Lib.hid hrow
    obtain ⟨n, hn⟩ : ∃ n, d.length = n := ⟨_, rfl⟩
    have HN := Lib.hid hn
    rw [hn] at hcap hlen h2 ⊢
    clear hrow hn
    go_enter Try.func64, Try.ntmps64
    go_wp2
    go_loopg [5] n (fun kx s5 wr => ∃ k : Nat, s5 = .int .i64 k ∧ 1 ≤ k ∧ k ≤ n ∧ n - k ≤ kx ∧ RowKit.Below w.heap.size w wr ∧ Hid (∀ j, 0 < j → j < k → key (ent d j) ≠ key (ent d (j - 1))))
    case atStart => exact ⟨1, rfl, Nat.le_refl _, by omega, by omega, RowKit.Below.refl _ _, Lib.hid fun j h1 h2 => by omega⟩
    case round =>
      obtain ⟨k, rfl, hk1, hk, hkx, hb, HI⟩ := hrel
      have hrw := HR.out.below hg hb
      have hbB : RowKit.Below B w0 wr := hb0.trans (hb.mono hBw)
      by_cases hlt : k < n
      · obtain ⟨p, hp⟩ : ∃ p, k - 1 = p := ⟨_, rfl⟩
        have ep : (k : Int) - 1 = (p : Int) := by omega
        have ew : IntKind.i64.wrap (p : Int) = (p : Int) := IntWalk.i64_in _ (by omega)
        have hpk : p < k := by omega
        have hpn : p < n := by omega
        obtain ⟨c1, c2, c3⟩ := (hrw.1 k (by rw [HN.out]; exact hlt)).regrown
        obtain ⟨c4, c5, c6⟩ := (hrw.1 p (by rw [HN.out]; omega)).regrown
        obtain ⟨x, hx⟩ : ∃ x, ent d k = x := ⟨_, rfl⟩
        obtain ⟨y, hy⟩ : ∃ y, ent d p = y := ⟨_, rfl⟩
        rw [hx] at c1 c2 c3
        rw [hy] at c4 c5 c6
        have hc := quiet_call (w := wr) fun w1 _ => eq_below x y w1
        have HXY := Lib.hid (show ent d k = x ∧ ent d p = y ∧ k - 1 = p from ⟨hx, hy, hp⟩)
        unfold enc at hc
        clear hx hy hp
        by_cases hdup : key x = key y
        · rw [decide_eq_true hdup] at hc
          have HD := Lib.hid hdup
          clear hdup
          go_wp2_with fail
          refine wp_region_quiet_below (by kernel_rfl) (by kernel_rfl) ?_
          repeat (quiet_step (first | (go_at_call 65; with_reducible exact hc _ _)))
          refine wpQuiet_nil ?_
          intro _ hw'
          obtain ⟨⟨dq, osq⟩, hw''⟩ := hw'
          subst hw''
          have hb2 := Below.next hb (below_regrown wr dq osq)
          clear c1 c2 c3 c4 c5 c6 hc hrw hbB hb
          generalize Sort.grow (redrawn wr dq) osq = w2 at hb2 ⊢
          clear dq osq
          have hck : ¬ cap = k := by omega
          have hbB := hb0.trans (hb2.mono hBw)
          have hrw := HR.out.below hg hb2
          have hg2 : g < w2.heap.size := Nat.lt_of_lt_of_le hg hb2.size
          have HK0 : Hid (Kept d (k + 1) k d) := Lib.hid ⟨rfl, by omega, by
            have hdk := HD.out
            have hxy := HXY.out
            rw [onceE_step (by omega) (by rw [HN.out]; exact hlt), hxy.1, hxy.2.2, hxy.2.1, if_pos hdk, onceE_none k (by rw [HN.out]; omega) HI.out], fun i _ _ => rfl⟩
          clear hb2 HXY HD HI
          go_wp2
          go_loopg [5, 7] n (fun kx s5 s7 wr => ∃ (kk k2 : Nat) (dk : List Ent), s5 = .int .i64 kk ∧ s7 = .int .i64 k2 ∧ 1 ≤ k2 ∧ k + k2 ≤ n ∧ n - (k + k2) ≤ kx ∧ kk < k + k2 ∧ RowKit.Below B w0 wr ∧ g < wr.heap.size ∧ Hid (RowW wr g dk) ∧ Hid (Kept d (k + k2) kk dk))
          case atStart => exact ⟨k, 1, d, rfl, rfl, Nat.le_refl _, by omega, by omega, by omega, hbB, hg2, Lib.hid hrw, HK0⟩
          case round =>
            clear hbB hrw hg2 HK0
            obtain ⟨kk, k2, dk, rfl, rfl, hk2, hkn, hkx2, hkk, hb, hgw, HRW, HK⟩ := hrel
            by_cases hlt2 : k + k2 < n
            · have hlt3 : k2 < n - k := by omega
              obtain ⟨q, hq⟩ : ∃ q, k2 - 1 = q := ⟨_, rfl⟩
              have eq1 : (k2 : Int) - 1 = (q : Int) := by omega
              have ew : IntKind.i64.wrap (q : Int) = (q : Int) := IntWalk.i64_in _ (by omega)
              have hqk : q < n - k := by omega
              have hdl : dk.length = n := by rw [HK.out.len, HN.out]
              have hE1 := HRW.out.1 (k + k2) (by omega)
              have hE2 := HRW.out.1 (k + q) (by omega)
              have hE3 := HRW.out.1 kk (by omega)
              have hf0 := HRW.out.2 (kk * 3) (by omega)
              have hf1 := HRW.out.2 (kk * 3 + 1) (by omega)
              have hf2 := HRW.out.2 (kk * 3 + 2) (by omega)
              rw [HK.out.rest (k + k2) (by omega) (by rw [HN.out]; omega), Nat.add_mul] at hE1
              rw [HK.out.rest (k + q) (by omega) (by rw [HN.out]; omega), Nat.add_mul] at hE2
              obtain ⟨c1, c2, c3⟩ := hE1.regrown
              obtain ⟨c4, c5, c6⟩ := hE2.regrown
              obtain ⟨x, hx⟩ : ∃ x, ent d (k + k2) = x := ⟨_, rfl⟩
              obtain ⟨y, hy⟩ : ∃ y, ent d (k + q) = y := ⟨_, rfl⟩
              obtain ⟨z, hz⟩ : ∃ z, ent dk kk = z := ⟨_, rfl⟩
              rw [hx] at c1 c2 c3 hE1
              rw [hy] at c4 c5 c6
              rw [hz] at hE3
              have hc := quiet_call (w := wr) fun w1 _ => eq_below x y w1
              have HXY := Lib.hid (show ent d (k + k2) = x ∧ ent d (k + q) = y ∧ k2 - 1 = q from ⟨hx, hy, hq⟩)
              have HE1 : Hid (EntAt wr g (k * 3 + k2 * 3) x) := Lib.hid hE1
              have HE3 : Hid (EntAt wr g (kk * 3) z) := Lib.hid hE3
              have HF : Hid (wr.frozen? ⟨g, kk * 3, none⟩ = false ∧ wr.frozen? ⟨g, kk * 3 + 1, none⟩ = false ∧ wr.frozen? ⟨g, kk * 3 + 2, none⟩ = false) := Lib.hid ⟨hf0, hf1, hf2⟩
              unfold enc at hc
              clear hx hy hz hq hE1 hE2 hE3 hf0 hf1 hf2
              by_cases hdup : key x = key y
              · rw [decide_eq_true hdup] at hc
                have HD := Lib.hid hdup
                clear hdup
                go_wp2_with fail
                refine wp_region_quiet_below (by kernel_rfl) (by kernel_rfl) ?_
                repeat (quiet_step (first | (go_at_call 65; with_reducible exact hc _ _)))
                refine wpQuiet_nil ?_
                intro _ hw'
                obtain ⟨⟨dq, osq⟩, hw''⟩ := hw'
                subst hw''
                have hbn := below_regrown wr dq osq
                clear c1 c2 c3 c4 c5 c6 hc
                generalize Sort.grow (redrawn wr dq) osq = w3 at hbn ⊢
                go_wp2
                go_roundg (n - (k + (k2 + 1)))
                case measure => omega
                case rel => exact ⟨kk, k2 + 1, dk, rfl, by go_num, by omega, by omega, Nat.le_refl _, by omega, hb.trans (hbn.mono (show B ≤ wr.heap.size by omega)), Nat.lt_of_lt_of_le hgw hbn.size, Lib.hid (HRW.out.below hgw hbn), Lib.hid (HK.out.skip (by rw [HN.out]; exact hlt2) (by omega) (by
                  have hh := HXY.out
                  rw [hh.1, show k + k2 - 1 = k + q by omega, hh.2.1]; exact HD.out))⟩
              · rw [decide_eq_false hdup] at hc
                have HD := Lib.hid hdup
                clear hdup
                go_wp2_with fail
                refine wp_region_quiet_below (by kernel_rfl) (by kernel_rfl) ?_
                repeat (quiet_step (first | (go_at_call 65; with_reducible exact hc _ _)))
                refine wpQuiet_nil ?_
                intro _ hw'
                obtain ⟨⟨dq, osq⟩, hw''⟩ := hw'
                subst hw''
                have hbn := below_regrown wr dq osq
                clear c1 c2 c3 c4 c5 c6 hc
                obtain ⟨g1, g2, g3⟩ := HE1.out.below hbn
                obtain ⟨g4, g5, g6⟩ := HE3.out.below hbn
                have hf : ∀ o, wr.frozen? ⟨g, o, none⟩ = false → (Sort.grow (redrawn wr dq) osq).frozen? ⟨g, o, none⟩ = false := fun o h => by rw [hbn.frozen (p := ⟨g, o, none⟩) hgw]; exact h
                have f0 := hf _ HF.out.1
                have f1 := hf _ HF.out.2.1
                have f2 := hf _ HF.out.2.2
                clear hf
                generalize Sort.grow (redrawn wr dq) osq = w3 at hbn g1 g2 g3 g4 g5 g6 f0 f1 f2 ⊢
                go_wp2
                have hrn := (HRW.out.below hgw hbn).set kk (by have := HK.out.len; have := HN.out; omega) x
                have hbn3 := RowW.below3 (i := kk) (hb.trans (hbn.mono (show B ≤ wr.heap.size by omega))) hB x
                have hgs : g < (((w3.setCell ⟨g, kk * 3, none⟩ (.string x.word)).setCell ⟨g, kk * 3 + 1, none⟩ (.int .u32 (x.weight : Int))).setCell ⟨g, kk * 3 + 2, none⟩ (.bool x.gone)).heap.size := by
                  have := hbn.size
                  simp
                  omega
                have HRN := Lib.hid hrn
                clear hrn
                generalize ((w3.setCell ⟨g, kk * 3, none⟩ (.string x.word)).setCell ⟨g, kk * 3 + 1, none⟩ (.int .u32 (x.weight : Int))).setCell ⟨g, kk * 3 + 2, none⟩ (.bool x.gone) = w4 at HRN hbn3 hgs ⊢
                go_roundg (n - (k + (k2 + 1)))
                case measure => omega
                case rel => exact ⟨kk + 1, k2 + 1, dk.set kk x, by go_num, by go_num, by omega, by omega, Nat.le_refl _, by omega, hbn3, hgs, HRN, Lib.hid (by
                  have hh := HXY.out
                  have hkeep := HK.out.keep (by rw [HN.out]; exact hlt2) (by omega) (by rw [hh.1, show k + k2 - 1 = k + q by omega, hh.2.1]; exact HD.out)
                  rw [hh.1] at hkeep
                  exact hkeep)⟩
            · have hlt3 : ¬ k2 < n - k := by omega
              have hdl : dk.length = n := by rw [HK.out.len, HN.out]
              have hdone := HK.out.done
              rw [show k + k2 = d.length by rw [HN.out]; omega, List.take_length] at hdone
              have hkl : kk = (onceE d).length := by rw [← hdone, List.length_take]; omega
              have hkkn : kk < n := by omega
              have hckk : ¬ cap = kk := by omega
              obtain ⟨zs, hzs⟩ := run_clear3 wr g (kk * 3) (n - kk) (cap - kk) (by omega) (fun j hj => by
                have he := HRW.out.1 ((kk * 3 + j) / 3) (by rw [hdl]; omega)
                have := he.get ((kk * 3 + j) % 3) (by omega)
                rw [show (kk * 3 + j) / 3 * 3 + (kk * 3 + j) % 3 = kk * 3 + j by omega] at this
                rw [this, List.getElem?_eq_getElem (by simp [enc]; omega)]
                rfl) (fun j hj => HRW.out.2 _ (by rw [hdl]; omega))
              have HD := Lib.hid hdone
              have HKL := Lib.hid hkl
              have hbz := below_setCells hB zs (kk * 3) wr hb
              have hrz : RowW (wr.setCells g (kk * 3) zs) g (onceE d) := by
                refine ⟨fun i hi => ?_, fun o ho => ?_⟩
                · have he := HRW.out.1 i (by omega)
                  have hei : ent (onceE d) i = ent dk i := by
                    rw [← hdone]
                    simp [ent, List.getD, show i < kk by omega]
                  rw [hei]
                  refine entAt_of fun c hc => ?_
                  rw [World.cell?_setCells_out g zs (kk * 3) wr ⟨g, i * 3 + c, none⟩ (fun _ _ => .inl (by show i * 3 + c < kk * 3; omega))]
                  exact he.get c hc
                · rw [World.frozen?_setCells]
                  exact HRW.out.2 o (by omega)
              have HRZ := Lib.hid hrz
              clear hdone hkl hrz
              go_wp2
              go_ret
              rw [← HKL.out]
              exact ⟨rfl, HRZ.out, hbz⟩
        · rw [decide_eq_false hdup] at hc
          have HD := Lib.hid hdup
          clear hdup
          go_wp2_with fail
          refine wp_region_quiet_below (by kernel_rfl) (by kernel_rfl) ?_
          repeat (quiet_step (first | (go_at_call 65; with_reducible exact hc _ _)))
          refine wpQuiet_nil ?_
          intro _ hw'
          obtain ⟨⟨dq, osq⟩, hw''⟩ := hw'
          subst hw''
          have hb2 := Below.next hb (below_regrown wr dq osq)
          clear c1 c2 c3 c4 c5 c6 hc hrw hbB hb
          generalize Sort.grow (redrawn wr dq) osq = w2 at hb2 ⊢
          clear dq osq
          go_wp2
          go_roundg (n - (k + 1))
          case measure => omega
          case rel => exact ⟨k + 1, by go_num, by omega, by omega, Nat.le_refl _, hb2, Lib.hid fun j h1 h3 => by
            rcases Nat.lt_or_ge j k with h | h
            · exact HI.out j h1 h
            · rw [show j = k by omega, HXY.out.2.2, HXY.out.1, HXY.out.2.1]; exact HD.out⟩
      · obtain rfl : k = n := by omega
        have ho : onceE d = d := by
          have := onceE_none (l := d) k (by rw [HN.out]; exact Nat.le_refl _) HI.out
          rwa [← HN.out, List.take_length] at this
        have HO := Lib.hid ho
        have HRW := Lib.hid hrw
        clear ho hrw
        go_wp2
        go_ret
        rw [HO.out, HN.out]
        exact ⟨rfl, HRW.out, hbB⟩
end Go.Proofs.Ytfnmmnbndfdpiaa

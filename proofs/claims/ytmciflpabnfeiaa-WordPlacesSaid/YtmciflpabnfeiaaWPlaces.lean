/-
  The walk of WordPlaces.
-/
import Derived.Test.YtmciflpabnfeiaaWWorks
import Derived.Test.YtmciflpabnfeiaaWWith
import Derived.Test.YtmciflpabnfeiaaWPMath
namespace Go.Proofs.Ytmciflpabnfeiaa
open Go.RowKit

set_option maxRecDepth 100000 in
set_option maxHeartbeats 8000000 in
theorem places_any (l : List ByteArray) (v : Value) (f : Nat) (w : World) (hv : Strs w v l) (hl : Short l) (hlen : l.length ≤ 9223372036854775807) (hf : f < 256) :
    Calls Try.prog 6 #[v, .int .u8 (f : Int)] w fun e w' => e = .returned (.bool true) ∧ Below w.heap.size w w' := by
  have q7 := fun w0 (h : Strs w0 v l) => few_any l v w0 h hl hlen
  have hL30 := fewT_length l
  have hL300 := fewT_size l
  obtain ⟨L, hL⟩ : ∃ L, L = fewT l := ⟨_, rfl⟩
  rw [← hL] at q7 hL30 hL300
  clear hL hl hlen
  go_enter Try.func6, Try.ntmps6
  go_wp2_with (first
    | (go_at_call 21; go_must (with_reducible refine (works_any _).mono ?_); rintro e w1 ⟨rfl, hb1⟩)
    | (go_at_call 7; go_must (with_reducible refine (q7 _ (hv.below hb1)).mono ?_); rintro e w2 ⟨v0, rfl, hrow, hb2⟩))
  clear q7 hv
  obtain ⟨ad, c, rfl, hLc, hcm, hs⟩ := hrow
  replace hb1 := Below.next hb1 hb2
  clear hb2
  have HS := Lib.hid (fun w' (h : Below w2.heap.size w2 w') => hs.below h)
  have hsL : ∀ i, (at' L i).size ≤ 9223372036854775807 := fun i => short_at (short_of_few hL300 (fun _ h => h)) i
  have HSL := Lib.hid hsL
  clear hs hsL
  have hbw : Below w2.heap.size w2 w2 := Below.refl _ _
  have HB := Lib.hid hb1
  have HL300 := Lib.hid hL300
  clear hb1 hL300
  go_wp2_with fail
  go_loopw [5, 6, 7] (fun v5 v6 i wr => ∃ k : Nat, k ≤ L.length ∧ i = .int .i64 k ∧ RowS wr v5 (placedT (L.take k)) ∧ RowS wr v6 (placedT (L.reverse.take k)) ∧ Below w2.heap.size w2 wr) (fun _ _ i _ => L.length - (intOf i).toNat)
  case atStart => exact ⟨0, Nat.zero_le _, rfl, rowS_nil w2, rowS_nil w2, hbw⟩
  case round =>
    obtain ⟨k, hk, rfl, h5, h6, hb⟩ := hrel
    clear hbw
    by_cases hlt : k < L.length
    · obtain ⟨b, o, rfl⟩ := strs_ad (HS.out _ hb) hlt
      have hn5 := placed_snoc L k hlt
      have hn6 := placed_snoc L.reverse k (by rw [List.length_reverse]; exact hlt)
      rw [at_reverse L k hlt] at hn6
      obtain ⟨m, hm⟩ : ∃ m : Nat, m = L.length - 1 := ⟨_, rfl⟩
      obtain ⟨j, hj⟩ : ∃ j : Nat, j = m - k := ⟨_, rfl⟩
      have em : (L.length : Int) - 1 = (m : Int) := by omega
      have ej : (m : Int) - (k : Int) = (j : Int) := by omega
      have hjl : j < L.length := by omega
      rw [← hm, ← hj] at hn6
      have hck := strs_at (HS.out _ hb) hlt
      have r5 := placedT_rising (L.take k)
      have r6 := placedT_rising (L.reverse.take k)
      have l5 : (placedT (L.take k)).length ≤ 1000 := Nat.le_trans (placedT_length _) (by rw [List.length_take]; omega)
      have l6 : (placedT (L.reverse.take k)).length ≤ 1000 := Nat.le_trans (placedT_length _) (by rw [List.length_take]; omega)
      obtain ⟨x, hx⟩ : ∃ x, x = at' L k := ⟨_, rfl⟩
      obtain ⟨y, hy⟩ : ∃ y, y = at' L j := ⟨_, rfl⟩
      have HCY := Lib.hid (fun w' (h : Below w2.heap.size w2 w') => hy ▸ strs_at (HS.out w' h) hjl)
      rw [← hx] at hck hn5
      rw [← hy] at hn6
      obtain ⟨A, hA⟩ : ∃ A, A = placedT (L.take k) := ⟨_, rfl⟩
      obtain ⟨C, hC⟩ : ∃ C, C = placedT (L.reverse.take k) := ⟨_, rfl⟩
      rw [← hA] at h5 hn5 r5 l5
      rw [← hC] at h6 hn6 r6 l6
      have c5 := fun w0 (h : RowS w0 u5 A) => with_any A u5 x w0 r5 h l5
      have c6 := fun w0 (h : RowS w0 u6 C) => with_any C u6 y w0 r6 h l6
      have HN5 := Lib.hid hn5
      have HN6 := Lib.hid hn6
      clear hm hj hx hy hA hC hn5 hn6 r5 r6 l5 l6
      go_wp2_with (go_at_call 24; first
        | ((with_reducible refine (c5 _ h5).mono ?_); rintro e w3 ⟨v5, rfl, h5', hb3⟩; clear c5; replace hb := Below.next hb hb3; replace h6 := h6.below hb3; clear hb3; have hcy := HCY.out _ hb)
        | ((with_reducible refine (c6 _ h6).mono ?_); rintro e w4 ⟨v6, rfl, h6', hb4⟩; replace hb := Below.next hb hb4; replace h5' := h5'.below hb4; clear hb4))
      exact ⟨⟨k + 1, by omega, by go_num, by rw [HN5.out]; exact h5', by rw [HN6.out]; exact h6', hb⟩, by simp [intOf]; omega⟩
    · obtain ⟨wA, rfl⟩ : ∃ wA, wA = wr := ⟨_, rfl⟩
      have hke : k = L.length := by omega
      have hrr : L.reverse.take k = L.reverse := by rw [hke, ← List.length_reverse, List.take_length]
      rw [hrr, placedT_reverse] at h6
      rw [hke, List.take_length] at h5
      have hOr := placedT_rising L
      have hOl : (placedT L).length ≤ 30 := Nat.le_trans (placedT_length L) hL30
      have hOs : Short (placedT L) := short_of_few HL300.out (fun s hs => (mem_placedT L s).1 hs)
      have hOm : ∀ i, i < L.length → inT (placedT L) (at' L i) = true := fun i hi => (inT_iff _ _).2 ((mem_placedT L _).2 (at_mem hi))
      obtain ⟨O, hO⟩ : ∃ O, O = placedT L := ⟨_, rfl⟩
      rw [← hO] at h5 h6 hOr hOl hOs hOm
      obtain ⟨a5, c5, rfl, hc5, hm5, hs5⟩ := h5
      obtain ⟨a6, c6, rfl, hc6, hm6, hs6⟩ := h6
      have q12 := fun w0 (h : Strs w0 (.slice a5 O.length c5) O) => rising_any O _ w0 h (by omega)
      rw [hOr] at q12
      have q16 := fun x w0 (h : Strs w0 (.slice a5 O.length c5) O) => near_any O _ x w0 hOr h (by omega)
      have H5 := Lib.hid (fun w' (h : Below wA.heap.size wA w') => hs5.below h)
      have H6 := Lib.hid (fun w' (h : Below wA.heap.size wA w') => hs6.below h)
      have HR := Lib.hid hOr
      have HM := Lib.hid hOm
      have HSh := Lib.hid hOs
      have hbr : Below wA.heap.size wA wA := Below.refl _ _
      have HBR := Lib.hid hb
      clear hke hrr hO hOr hOs hOm hs5 hs6 hb
      go_wp2_with (go_at_call 12; go_must (with_reducible refine (q12 _ (H5.out _ hbr)).mono ?_); rintro e w3 ⟨rfl, hb3⟩; replace hbr := Below.next hbr hb3; clear hb3)
      clear q12
      go_loopw [8, 9, 10] (fun i _ _ wx => ∃ k : Nat, k ≤ O.length ∧ i = .int .i64 k ∧ Below wA.heap.size wA wx) (fun i _ _ _ => O.length - (intOf i).toNat)
      case atStart => exact ⟨0, Nat.zero_le _, rfl, hbr⟩
      case round =>
        obtain ⟨i, hi, rfl, hbx⟩ := hrel
        clear hbr
        by_cases hlt : i < O.length
        · obtain ⟨b5, o5, rfl⟩ := strs_ad (H5.out _ hbx) hlt
          obtain ⟨b6, o6, rfl⟩ := strs_ad (H6.out _ hbx) hlt
          have hc5 := strs_at (H5.out _ hbx) hlt
          have hc6 := strs_at (H6.out _ hbx) hlt
          have q := q16 (at' O i) _ (H5.out _ hbx)
          unfold nearAns at q
          rw [place_of HR.out hlt, in_of hlt] at q
          obtain ⟨z, hz⟩ : ∃ z, z = at' O i := ⟨_, rfl⟩
          rw [← hz] at hc5 hc6 q
          have d1 : (z.toList != z.toList) = false := by simp
          clear hz q16
          go_wp2_with (go_at_call 16; go_must (with_reducible refine q.mono ?_); rintro e w4 ⟨rfl, rfl⟩)
          go_quiet (fail)
          replace hbx := below_drewN hbx nq
          generalize World.drewN _ nq = w5 at hbx ⊢
          go_wp2
          exact ⟨⟨i + 1, by omega, by go_num, hbx⟩, by simp [intOf]; omega⟩
        · go_wp2_with fail
          go_loopw [11, 12, 13] (fun i _ _ wy => ∃ k : Nat, k ≤ L.length ∧ i = .int .i64 k ∧ Below wA.heap.size wA wy) (fun i _ _ _ => L.length - (intOf i).toNat)
          case atStart => exact ⟨0, Nat.zero_le _, rfl, hbx⟩
          case round =>
            obtain ⟨j, hj, rfl, hby⟩ := hrel
            clear hbx
            by_cases hlj : j < L.length
            · obtain ⟨b, o, rfl⟩ := strs_ad (HS.out _ (Below.next HBR.out hby)) hlj
              have hcj := strs_at (HS.out _ (Below.next HBR.out hby)) hlj
              have q := q16 (at' L j) _ (H5.out _ hby)
              unfold nearAns at q
              rw [HM.out j hlj] at q
              obtain ⟨p, hp⟩ : ∃ p, placeT O (at' L j) = p := ⟨_, rfl⟩
              rw [hp] at q
              obtain ⟨z, hz⟩ : ∃ z, z = at' L j := ⟨_, rfl⟩
              rw [← hz] at hcj q
              clear hz hp q16
              go_wp2_with (go_at_call 16; go_must (with_reducible refine q.mono ?_); rintro e w4 ⟨rfl, rfl⟩)
              exact ⟨⟨j + 1, by omega, by go_num, hby⟩, by simp [intOf]; omega⟩
            · obtain ⟨t, ht⟩ : ∃ t : Nat, t = f % (O.length + 1) := ⟨_, rfl⟩
              have e2 : (f : Int) % ((O.length : Int) + 1) = (t : Int) := by rw [ht]; push_cast; rfl
              have htl : t < O.length + 1 := by rw [ht]; exact Nat.mod_lt _ (by omega)
              have hb0 := Below.next HB.out (Below.next HBR.out hby)
              clear ht q16
              by_cases hte : t = O.length
              · have d1 : ((t : Int) == (O.length : Int)) = true := by rw [beq_iff_eq]; omega
                clear hte
                go_wp2
                go_quiet (fail)
                replace hb0 := below_drewN hb0 nq
                generalize World.drewN _ nq = w5 at hb0 ⊢
                go_wp2
                go_ret
                exact ⟨rfl, hb0⟩
              · have d1 : ((t : Int) == (O.length : Int)) = false := by rw [beq_eq_false_iff_ne]; omega
                have htl' : t < O.length := by omega
                have htc : t ≤ c5 := by omega
                have hto : t ≤ O.length := by omega
                have c1 := quiet_call (w := wr) fun w1 h => shared_any O (.slice a5 O.length c5) w1 (H5.out _ (Below.next hby h)) HSh.out (by omega)
                have c2 := quiet_call (w := wr) fun w1 h => shared_any (O.drop t) (.slice (if c5 = t then a5 else Option.map (fun x => x.add t) a5) (O.length - t) (c5 - t)) w1 (Strs.drop (H5.out _ (Below.next hby h)) rfl hc5 hto) (fun s hs => HSh.out s (List.mem_of_mem_drop hs)) (by rw [List.length_drop]; omega)
                have hle := shared_part O t htl'
                obtain ⟨S1, hS1⟩ : ∃ S1, allSharedT O = S1 := ⟨_, rfl⟩
                obtain ⟨S2, hS2⟩ : ∃ S2, allSharedT (O.drop t) = S2 := ⟨_, rfl⟩
                rw [hS1] at c1 hle
                rw [hS2] at c2 hle
                have d2 : decide ((S1 : Int) ≤ (S2 : Int)) = true := decide_eq_true (by omega)
                clear hte hS1 hS2
                go_wp2
                refine wp_region_quiet_below (by kernel_rfl) (by kernel_rfl) ?_
                repeat (quiet_step ((go_at_call 14; first | (with_reducible exact c1 _ _) | (with_reducible exact c2 _ _))))
                refine wpQuiet_nil ?_
                intro _ hw'
                obtain ⟨⟨dq, osq⟩, hw''⟩ := hw'
                subst hw''
                replace hb0 := Below.next hb0 (below_regrown wr dq osq)
                generalize Sort.grow (redrawn wr dq) osq = w6 at hb0 ⊢
                go_wp2
                go_ret
                exact ⟨rfl, hb0⟩
end Go.Proofs.Ytmciflpabnfeiaa

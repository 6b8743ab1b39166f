/-
  Contracts of what goes through a slice of texts: the document's AllShared and Near; the program's place and Near.
-/
import Derived.Test.YtmciflpabnfeiaaWLists
namespace Go.Proofs.Ytmciflpabnfeiaa
open Go.RowKit

set_option maxHeartbeats 800000 in
theorem refAllShared_any (l : List ByteArray) (v : Value) (w : World) (hv : Strs w v l) (hl : Short l) (hlen : l.length ≤ 9223372036854775806) :
    Calls Try.prog 15 #[v] w fun e w' => e = .returned (.int .i64 (allSharedT l)) ∧ Below w.heap.size w w' := by
  obtain ⟨ad, c, rfl, hc⟩ := strs_cell hv
  by_cases h0 : l.length = 0
  · have hl0 : l = [] := List.eq_nil_of_length_eq_zero h0
    have e0 : ((l.length : Int) == 0) = true := by rw [beq_iff_eq]; omega
    have HA : Hid (allSharedT l = 0) := Lib.hid (by rw [hl0]; rfl)
    clear h0 hl0 hc
    go_enter Try.func15, Try.ntmps15
    go_wp2
    go_ret
    exact ⟨ret_nat HA.out.symm, Below.refl _ _⟩
  have hpos : 0 < l.length := by omega
  have e0 : ((l.length : Int) == 0) = false := by rw [beq_eq_false_iff_ne]; omega
  obtain ⟨b, o, rfl, hcell0⟩ := hc 0 hpos
  obtain ⟨x, hx⟩ : ∃ x, x = at' l 0 := ⟨_, rfl⟩
  rw [← hx, Nat.add_zero] at hcell0
  have hxz : x.size ≤ 9223372036854775807 := by rw [hx]; exact short_at hl _
  have HF := Lib.hid (allShared_first l hpos)
  have HX := Lib.hid hx
  clear hx h0
  go_enter Try.func15, Try.ntmps15
  go_wp2
  go_loopw [3, 4] (fun v3 i wr => ∃ k n : Nat, 1 ≤ k ∧ k ≤ l.length ∧ i = .int .i64 k ∧ v3 = .int .i64 n ∧ n = allSharedT (l.take k) ∧ n ≤ x.size ∧ Below w.heap.size w wr) (fun _ i _ => l.length - (intOf i).toNat)
  case atStart => exact ⟨1, x.size, Nat.le_refl _, hpos, rfl, rfl, by rw [HF.out, ← HX.out], Nat.le_refl _, Below.refl _ _⟩
  case round =>
    obtain ⟨k, n, hk1, hk, rfl, rfl, hn, hnx, hb⟩ := hrel
    have HN := Lib.hid hn
    clear hn
    by_cases hlt : k < l.length
    · obtain ⟨b', o', he', hcell⟩ := hc k hlt
      cases he'
      obtain ⟨y, hy⟩ : ∃ y, y = at' l k := ⟨_, rfl⟩
      rw [← hy] at hcell
      have hcg := fun d os => cell_regrown ((hb.cell (p := ⟨b, o + k, none⟩) (block_lt_of_cell hcell)).trans hcell) d os
      have hcg0 := fun d os => cell_regrown ((hb.cell (p := ⟨b, o, none⟩) (block_lt_of_cell hcell0)).trans hcell0) d os
      have q20 := quiet_call (w := wr) fun w1 _ => refShared_any x y w1 hxz (by rw [hy]; exact short_at hl _)
      obtain ⟨m, hm⟩ : ∃ m, sharedT x y = m := ⟨_, rfl⟩
      rw [hm] at q20
      rw [hy, HX.out] at hm
      have HM := Lib.hid hm
      clear hm hy hc hcell
      have hpos' : (0 : Int) < (l.length : Int) := by omega
      have hnext := allShared_head (l := l) (k := k) (by omega) hlt
      rw [HM.out, ← HN.out] at hnext
      have HE := Lib.hid hnext
      clear hnext
      rcases Nat.lt_or_ge m n with hmn | hmn
      · have dm : (m : Int) < (n : Int) := by omega
        go_wp2
        refine wp_region_quiet_below (by kernel_rfl) (by kernel_rfl) ?_
        repeat (quiet_step (first | (go_at_call 20; with_reducible exact q20 _ _)))
        refine wpQuiet_nil ?_
        intro _ hw'
        obtain ⟨⟨dq, osq⟩, hw''⟩ := hw'
        subst hw''
        have hb2 := Below.next hb (below_regrown wr dq osq)
        generalize Sort.grow (redrawn wr dq) osq = w2 at hb2 ⊢
        clear q20 hcg hcg0
        go_wp2
        exact ⟨⟨k + 1, m, by omega, by omega, by go_num, rfl, by rw [HE.out]; omega, by omega, hb2⟩, by simp [intOf]; omega⟩
      · have dm : ¬ (m : Int) < (n : Int) := by omega
        go_wp2
        refine wp_region_quiet_below (by kernel_rfl) (by kernel_rfl) ?_
        repeat (quiet_step (first | (go_at_call 20; with_reducible exact q20 _ _)))
        refine wpQuiet_nil ?_
        intro _ hw'
        obtain ⟨⟨dq, osq⟩, hw''⟩ := hw'
        subst hw''
        have hb2 := Below.next hb (below_regrown wr dq osq)
        generalize Sort.grow (redrawn wr dq) osq = w2 at hb2 ⊢
        clear q20 hcg hcg0
        go_wp2
        exact ⟨⟨k + 1, n, by omega, by omega, by go_num, by rw [if_neg (Nat.not_lt.2 hmn)], by rw [HE.out]; omega, by omega, hb2⟩, by simp [intOf]; omega⟩
    · have HE : Hid (n = allSharedT l) := Lib.hid (by rw [HN.out, show k = l.length by omega, List.take_length])
      clear hc
      go_wp2
      go_ret
      exact ⟨ret_nat HE.out, hb⟩

theorem nearFrom_drop (l : List ByteArray) (x : ByteArray) (i n : Nat) (h : i < l.length) : Plain.nearFrom i n (bl (l.drop i)) x.data.toList = if at' l i = x then (i, true) else Plain.nearFrom (i + 1) (if lessT (at' l i) x = true then n + 1 else n) (bl (l.drop (i + 1))) x.data.toList := by
  rw [List.drop_eq_getElem_cons h, at_lt h]
  show Plain.nearFrom i n (l[i].data.toList :: bl (l.drop (i + 1))) _ = _
  rw [Plain.nearFrom]
  by_cases e : l[i] = x
  · rw [if_pos (by rw [e]), if_pos e]
  · rw [if_neg (fun h => e (ba_ext h)), if_neg e]
    rfl

theorem beq_toList (a b : ByteArray) : (a.toList == b.toList) = decide (a = b) := toList_beq a b

set_option maxHeartbeats 800000 in
theorem refNear_any (l : List ByteArray) (v : Value) (x : ByteArray) (w : World) (hv : Strs w v l) (hl : Short l) (hx : x.size ≤ 9223372036854775807) (hlen : l.length ≤ 9223372036854775806) :
    Calls Try.prog 17 #[v, .string x] w fun e w' => e = .returned (.tuple #[.int .i64 ((Plain.near (bl l) x.data.toList).1 : Nat), .bool (Plain.near (bl l) x.data.toList).2]) ∧ Below w.heap.size w w' := by
  obtain ⟨ad, c, rfl, hc⟩ := strs_cell hv
  obtain ⟨R, hR⟩ : ∃ R, R = Plain.near (bl l) x.data.toList := ⟨_, rfl⟩
  have HR := Lib.hid hR
  rw [← hR]
  clear hR
  go_enter Try.func17, Try.ntmps17
  go_wp2
  go_loopw [6, 7] (fun v6 i wr => ∃ k n : Nat, k ≤ l.length ∧ n ≤ k ∧ i = .int .i64 k ∧ v6 = .int .i64 n ∧ Plain.nearFrom k n (bl (l.drop k)) x.data.toList = R ∧ Below w.heap.size w wr) (fun _ i _ => l.length - (intOf i).toNat)
  case atStart => exact ⟨0, 0, Nat.zero_le _, Nat.le_refl _, rfl, rfl, HR.out.symm, Below.refl _ _⟩
  case round =>
    obtain ⟨k, n, hk, hnk, rfl, rfl, hrow, hb⟩ := hrel
    by_cases hlt : k < l.length
    · rw [nearFrom_drop l x k n hlt] at hrow
      obtain ⟨b, o, rfl, hcell⟩ := hc k hlt
      have hcell' := (hb.cell (p := ⟨b, o + k, none⟩) (block_lt_of_cell hcell)).trans hcell
      have hyz := short_at hl k
      obtain ⟨y, hy⟩ : ∃ y, y = at' l k := ⟨_, rfl⟩
      rw [← hy] at hcell' hrow hyz
      clear hcell
      by_cases he : y = x
      · rw [if_pos he] at hrow
        have HROW := Lib.hid hrow
        have d : (y.toList == x.toList) = true := by rw [beq_toList]; exact decide_eq_true he
        clear hrow hc hy he
        go_wp2
        go_ret2
        exact ⟨by rw [← HROW.out]; rfl, hb⟩
      · rw [if_neg he] at hrow
        have d : (y.toList == x.toList) = false := by rw [beq_toList]; exact decide_eq_false he
        have q19 := fun w0 => refLess_any y x w0 hyz hx
        obtain ⟨r, hr⟩ : ∃ r, lessT y x = r := ⟨_, rfl⟩
        rw [hr] at q19 hrow
        cases r
        · rw [if_neg (by simp)] at hrow
          have HROW := Lib.hid hrow
          clear hrow hc hy he hr
          go_wp2_with (go_at_call 19; go_must (with_reducible refine (q19 _).mono ?_); rintro e w1 ⟨rfl, hb1⟩; replace hb := Below.next hb hb1; clear hb1)
          exact ⟨⟨k + 1, n, by omega, by omega, by go_num, rfl, HROW.out, hb⟩, by simp [intOf]; omega⟩
        · rw [if_pos rfl] at hrow
          have HROW := Lib.hid hrow
          clear hrow hc hy he hr
          go_wp2_with (go_at_call 19; go_must (with_reducible refine (q19 _).mono ?_); rintro e w1 ⟨rfl, hb1⟩; replace hb := Below.next hb hb1; clear hb1)
          exact ⟨⟨k + 1, n + 1, by omega, by omega, by go_num, by go_num, HROW.out, hb⟩, by simp [intOf]; omega⟩
    · have HE : Hid (R = (n, false)) := Lib.hid (by
        rw [← hrow, List.drop_eq_nil_of_le (by omega)]; rfl)
      clear hc hrow
      go_wp2
      go_ret2
      exact ⟨by rw [HE.out]; rfl, hb⟩
/-- What Near answers of texts that rise. -/
def nearAns (l : List ByteArray) (x : ByteArray) : Value := .tuple #[.int .i64 (placeT l x : Nat), .bool (inT l x)]

theorem refNear_rising (l : List ByteArray) (v : Value) (x : ByteArray) (w : World) (hr : risingT l = true) (hv : Strs w v l) (hl : Short l) (hx : x.size ≤ 9223372036854775807) (hlen : l.length ≤ 9223372036854775806) :
    Calls Try.prog 17 #[v, .string x] w fun e w' => e = .returned (nearAns l x) ∧ Below w.heap.size w w' := by
  have := refNear_any l v x w hv hl hx hlen
  rw [Plain.near_rising hr] at this
  exact this

set_option maxHeartbeats 1600000 in
theorem place_any (l : List ByteArray) (v : Value) (x : ByteArray) (w : World) (hr : risingT l = true) (hv : Strs w v l) (hlen : l.length ≤ 4611686018427387903) :
    Calls Try.prog 30 #[v, .string x, .func (.func 18) #[] #[]] w fun e w' => e = .returned (nearAns l x) ∧ w = w' := by
  obtain ⟨ad, c, rfl, hc⟩ := strs_cell hv
  obtain ⟨p, hp⟩ : ∃ p, placeT l x = p := ⟨_, rfl⟩
  have hless := fun i hi => less_place hr x (i := i) hi
  have hin := in_place hr x
  have hpl := placeT_le l x
  unfold nearAns
  rw [hp] at hless hin hpl ⊢
  have HL := Lib.hid hless
  have HI := Lib.hid hin
  clear hless hin hp
  go_enter Try.func30, Try.ntmps30
  go_wp2
  go_loop [8, 9, 10] (fun lo hi _ => ∃ a z : Nat, a ≤ p ∧ p ≤ z ∧ z ≤ l.length ∧ lo = .int .i64 a ∧ hi = .int .i64 z) (fun lo hi _ => (intOf hi - intOf lo).toNat)
  case atStart => exact ⟨0, l.length, Nat.zero_le _, hpl, Nat.le_refl _, rfl, rfl⟩
  case round =>
    obtain ⟨a, z, hap, hpz, hz, rfl, rfl⟩ := hrel
    by_cases hlt : a < z
    · obtain ⟨m, hm⟩ : ∃ m : Nat, m = a + (z - a) / 2 := ⟨_, rfl⟩
      have hm1 : a ≤ m := by omega
      have hm2 : m < z := by omega
      have em : (a : Int) + ((z : Int) - (a : Int)) / 2 = (m : Int) := by omega
      have hml : m < l.length := by omega
      obtain ⟨b, o, rfl, hcell⟩ := hc m hml
      have q18 := less_any (at' l m) x w
      rw [HL.out m hml] at q18
      obtain ⟨y, hy⟩ : ∃ y, y = at' l m := ⟨_, rfl⟩
      rw [← hy] at hcell q18
      clear hm hc hy
      by_cases hmp : m < p
      · rw [decide_eq_true hmp] at q18
        go_wp2_with (go_at_call 18; go_must (refine q18.mono ?_); rintro e w1 ⟨rfl, rfl⟩)
        exact ⟨⟨m + 1, z, by omega, hpz, hz, by go_num, rfl⟩, by simp [intOf]; omega⟩
      · rw [decide_eq_false hmp] at q18
        go_wp2_with (go_at_call 18; go_must (refine q18.mono ?_); rintro e w1 ⟨rfl, rfl⟩)
        exact ⟨⟨a, m, hap, by omega, by omega, rfl, rfl⟩, by simp [intOf]; omega⟩
    · obtain rfl : a = p := by omega
      obtain rfl : z = a := by omega
      by_cases hpn : z < l.length
      · obtain ⟨b, o, rfl, hcell⟩ := hc z hpn
        have q18 := less_any x (at' l z) w
        have hi := HI.out
        rw [decide_eq_true hpn, Bool.true_and] at hi
        obtain ⟨y, hy⟩ : ∃ y, y = at' l z := ⟨_, rfl⟩
        rw [← hy] at hcell q18 hi
        obtain ⟨r, hr'⟩ : ∃ r, lessT x y = r := ⟨_, rfl⟩
        rw [hr'] at q18 hi
        have HI2 := Lib.hid hi
        clear hc hy hi hr'
        go_wp2_with (go_at_call 18; go_must (refine q18.mono ?_); rintro e w1 ⟨rfl, rfl⟩)
        go_ret2
        exact ⟨by rw [HI2.out]; rfl, rfl⟩
      · have hi := HI.out
        rw [decide_eq_false hpn, Bool.false_and] at hi
        have HI2 := Lib.hid hi
        clear hc hi
        go_wp2
        go_ret2
        exact ⟨by rw [HI2.out]; rfl, rfl⟩

theorem near_any (l : List ByteArray) (v : Value) (x : ByteArray) (w : World) (hr : risingT l = true) (hv : Strs w v l) (hlen : l.length ≤ 4611686018427387903) :
    Calls Try.prog 16 #[v, .string x] w fun e w' => e = .returned (nearAns l x) ∧ w = w' := by
  have q30 := place_any l v x w hr hv hlen
  unfold nearAns at q30 ⊢
  obtain ⟨ad, c, rfl, _⟩ := hv
  go_enter Try.func16, Try.ntmps16
  go_wp2_with (go_at_call 30; go_must (refine q30.mono ?_); rintro e w1 ⟨rfl, rfl⟩)
  go_ret2
  exact ⟨rfl, rfl⟩
end Go.Proofs.Ytmciflpabnfeiaa

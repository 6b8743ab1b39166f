/-
  DistScripts' walk.
-/
import Derived.Test.YtbdbcfidbapioaaG14
import Derived.Test.YtbdbcfidbapioaaG12
import Derived.Test.YtbdbcfidbapioaaG13
set_option linter.unusedVariables false
set_option linter.unusedSimpArgs false
namespace Go.Proofs.Ytbdbcfidbapioaa
open Go.RowKit Go.Shelf Said

/-- One byte at the least, taken out or made another one. -/
theorem lev_cut (a b : List UInt8) (k : Nat) (h : k < b.length) : lev a (b.take k ++ b.drop (k + 1)) ≤ lev a b + 1 := by
  have e : b = b.take k ++ [b.getD k 0] ++ b.drop (k + 1) := by
    rw [← take_next b k h, List.take_append_drop]
  have h1 := lev_put (b.take k) (b.drop (k + 1)) (b.getD k 0)
  rw [← e] at h1
  have h2 := lev_tri a b (b.take k ++ b.drop (k + 1))
  omega
theorem lev_swap (a b : List UInt8) (c : UInt8) (k : Nat) (h : k < b.length) : lev a (b.take k ++ [c] ++ b.drop (k + 1)) ≤ lev a b + 1 := by
  have e : b = b.take k ++ b.getD k 0 :: b.drop (k + 1) := by
    have h3 : b = b.take k ++ [b.getD k 0] ++ b.drop (k + 1) := by rw [← take_next b k h, List.take_append_drop]
    rw [List.append_assoc] at h3
    exact h3
  have h1 := lev_turn (b.take k) (b.drop (k + 1)) (b.getD k 0) c
  rw [← e] at h1
  have h2 := lev_tri a b (b.take k ++ [c] ++ b.drop (k + 1))
  rw [List.append_assoc] at h2 ⊢
  have h3 : [c] ++ b.drop (k + 1) = c :: b.drop (k + 1) := rfl
  rw [h3] at h2 ⊢
  omega
theorem lev_ins' (a b : List UInt8) (c : UInt8) (k : Nat) : lev a (b.take k ++ [c] ++ b.drop k) ≤ lev a b + 1 := by
  have h := (lev_more b a c k).1
  rw [lev_comm, lev_comm b a] at h
  exact h

set_option maxHeartbeats 10000000 in
set_option maxRecDepth 100000 in
theorem scripts_walk (a0 b0 : ByteArray) (l : List Nat) (v : Value) (w : World) (ha0 : a0.size ≤ maxLen) (hb0 : b0.size ≤ maxLen) (hl : Row16 w v l) (hlz : l.length ≤ 9223372036854775807) (hbk : ∀ b o m c, v = .slice (some ⟨b, o, none⟩) m c → b < w.heap.size) :
    Calls Try.prog 5 #[.string a0, .string b0, v] w fun e w' => e = .returned (.bool true) ∧ Below w.heap.size w w' := by
  unfold maxLen at ha0 hb0
  obtain ⟨ad, cl, rfl, hlc⟩ := hl
  obtain ⟨ka, hka⟩ : ∃ ka, ka = min a0.size 40 := ⟨_, rfl⟩
  obtain ⟨kb, hkb⟩ : ∃ kb, kb = min b0.size 40 := ⟨_, rfl⟩
  have m1 : (if (40 : Int) < (a0.size : Int) then 40 else (a0.size : Int)) = (ka : Int) := by split <;> omega
  have m2 : (if (40 : Int) < (b0.size : Int) then 40 else (b0.size : Int)) = (kb : Int) := by split <;> omega
  have i1 : (ka : Int) ≤ (a0.size : Int) := by omega
  have i2 : (kb : Int) ≤ (b0.size : Int) := by omega
  have QW := Lib.hid works_any
  have HK := Lib.hid (And.intro hka hkb)
  have HLC : Hid (∀ W, Below w.heap.size w W → ∀ i, i < l.length → ∃ b o, ad = some ⟨b, o, none⟩ ∧ W.cell? ⟨b, o + i, none⟩ = some (.int .u16 ((l.getD i 0 : Nat) : Int)) ∧ l.getD i 0 ≤ 65535) := Lib.hid fun W hb i hi => by
    obtain ⟨b, o, e, hc, hm⟩ := hlc i hi
    exact ⟨b, o, e, (hb.cell (p := ⟨b, o + i, none⟩) (block_lt_of_cell hc)).trans hc, hm⟩
  obtain ⟨ll, hll⟩ : ∃ ll, ll = l.length := ⟨_, rfl⟩
  rw [← hll] at hlz ⊢
  have HLL := Lib.hid hll
  clear hka hkb hlc hbk hll
  go_enter Try.func5, Try.ntmps5
  go_wp2_with (go_at_call 17; (with_reducible refine (QW.out _).mono ?_); rintro e w1 ⟨rfl, hb1⟩)
  go_region
  obtain ⟨A, hA⟩ : ∃ A, A = a0.extract 0 ka := ⟨_, rfl⟩
  obtain ⟨D, hD⟩ : ∃ D, D = b0.extract 0 kb := ⟨_, rfl⟩
  have sA : A.size ≤ 40 := by rw [hA, ByteArray.size_extract]; have := HK.out; omega
  have sD : D.size ≤ 40 := by rw [hD, ByteArray.size_extract]; have := HK.out; omega
  rw [← hA, ← hD]
  clear hA hD m1 m2 i1 i2
  obtain ⟨N, hN⟩ : ∃ N, lev A.data.toList D.data.toList = N := ⟨_, rfl⟩
  obtain ⟨S, hS⟩ : ∃ S : ByteArray, S = ⟨(scriptT A.data.toList D.data.toList).toArray⟩ := ⟨_, rfl⟩
  have hSl : S.data.toList = scriptT A.data.toList D.data.toList := by rw [hS]
  have hSz : S.size ≤ 80 := by
    rw [← ba_length, hSl]
    have := scriptT_length A.data.toList D.data.toList
    rw [ba_length, ba_length] at this
    omega
  have QS := Lib.hid (script_lit A D S (by omega) (by omega) hSl.symm)
  have QM := Lib.hid (fun W => made_any A D S N W (by omega) (by omega) (by omega) (by rw [hSl, script_goes, ba_length, ba_length, hN]))
  have QO := Lib.hid (of_eq A D N (by omega) (by omega) hN)
  have H1 := Lib.hid (Below.drew hb1)
  clear hS hSl hSz hb1 hN
  go_upto_region 7 with (first
    | (go_at_call 10; (with_reducible refine (QS.out _).mono ?_); rintro e w2 ⟨rfl, hb⟩; replace H1 := Lib.hid (H1.out.trans (hb.mono H1.out.size)); clear hb)
    | (go_at_call 18; (with_reducible refine (QM.out _).mono ?_); rintro e w2 ⟨rfl, hb⟩; replace H1 := Lib.hid (H1.out.trans (hb.mono H1.out.size)); clear hb)
    | (go_at_call 9; (with_reducible refine (QO.out _).mono ?_); rintro e w2 ⟨rfl, hb⟩; replace H1 := Lib.hid (H1.out.trans (hb.mono H1.out.size)); clear hb))
  go_wp2
  clear QW QS QM QO
  go_loopw [9, 10, 11] (fun s9 s10 s11 wr => ∃ (i mn : Nat) (cs : ByteArray), i ≤ 6 ∧ i ≤ ll ∧ s11 = .int .i64 (i : Int) ∧ s10 = .int .i64 (mn : Int) ∧ s9 = .string cs ∧ Hid (lev A.data.toList cs.data.toList ≤ mn) ∧ cs.size ≤ 40 + i ∧ mn ≤ i ∧ Hid (Below w.heap.size w wr)) (fun _ _ s11 _ => 6 - (intOf s11).toNat)
  case atStart => exact ⟨0, 0, A, by omega, Nat.zero_le _, rfl, rfl, rfl, Lib.hid (by rw [lev_self]; exact Nat.le_refl _), by omega, by omega, H1⟩
  case round =>
    obtain ⟨i, mn, cs, hi, hil, rfl, rfl, rfl, HL, hcs, hmn, HB⟩ := hrel
    by_cases hgo : i < ll ∧ i < 6
    · obtain ⟨g1, g2⟩ := hgo
      have d1 : decide ((i : Int) < (ll : Int)) = true := decide_eq_true (by omega)
      have d1' : decide (i < ll) = true := decide_eq_true g1
      have d2 : decide ((i : Int) < 6) = true := decide_eq_true (by omega)
      have d2' : decide (i < 6) = true := decide_eq_true g2
      have iil : (i : Int) < (ll : Int) := by omega
      obtain ⟨b, o, rfl, hc, hm⟩ := HLC.out wr HB.out i (by rw [← HLL.out]; exact g1)
      obtain ⟨x, hx⟩ : ∃ x, l.getD i 0 = x := ⟨_, rfl⟩
      rw [hx] at hc hm
      clear hx
      obtain ⟨n, hn⟩ : ∃ n, n = cs.size := ⟨_, rfl⟩
      obtain ⟨q16, hq16⟩ : ∃ q, q = x / 16 := ⟨_, rfl⟩
      obtain ⟨r4, hr4⟩ : ∃ q, q = x % 4 := ⟨_, rfl⟩
      obtain ⟨q4, hq4⟩ : ∃ q, q = x / 4 := ⟨_, rfl⟩
      obtain ⟨r3, hr3⟩ : ∃ q, q = q4 % 3 := ⟨_, rfl⟩
      obtain ⟨p, hp⟩ : ∃ p, p = q16 % (n + 1) := ⟨_, rfl⟩
      have hpl : p ≤ n := by rw [hp]; have := Nat.mod_lt q16 (show 0 < n + 1 by omega); omega
      have es : (cs.size : Int) = (n : Int) := by rw [hn]
      have t0 : (x : Int).tdiv 16 = (q16 : Int) := by rw [Int.tdiv_eq_ediv_of_nonneg (by omega)]; omega
      have t0' : (x : Int) / 16 = (q16 : Int) := by omega
      have t1 : (q16 : Int).tmod ((n : Int) + 1) = (p : Int) := by rw [tmod_nat, hp]
      have tz : ((n : Int) + 1 == 0) = false := by simp; omega
      have t3 : (x : Int).tmod 4 = (r4 : Int) := by rw [Int.tmod_eq_emod_of_nonneg (by omega)]; omega
      have t3' : (x : Int) % 4 = (r4 : Int) := by omega
      have t6 : (x : Int).tdiv 4 = (q4 : Int) := by rw [Int.tdiv_eq_ediv_of_nonneg (by omega)]; omega
      have t6' : (x : Int) / 4 = (q4 : Int) := by omega
      have t7 : (q4 : Int).tmod 3 = (r3 : Int) := by rw [Int.tmod_eq_emod_of_nonneg (by omega)]; omega
      have t7' : (q4 : Int) % 3 = (r3 : Int) := by omega
      have hr4b : r4 ≤ 3 := by omega
      have hr3b : r3 ≤ 2 := by omega
      have w1 : IntKind.i64.wrap ((97 : Int) + (r4 : Int)) = 97 + (r4 : Int) := IntWalk.i64_in _ (by omega)
      have w2 : IntKind.u8.wrap ((97 : Int) + (r4 : Int)) = 97 + (r4 : Int) := by rw [IntKind.wrap_u8]; omega
      obtain ⟨cu, hcu⟩ : ∃ cu : UInt8, (cu.toNat : Int) = 97 + (r4 : Int) := ⟨UInt8.ofNat (97 + r4), by simp; omega⟩
      obtain ⟨one, hone⟩ : ∃ one : ByteArray, one = ⟨#[cu]⟩ := ⟨_, rfl⟩
      have s1 : one.size = 1 := by rw [hone]; rfl
      have bone : one.data.toList = [cu] := by rw [hone]
      have cv := conv_oneb wr cu
      rw [hcu, ← hone] at cv
      have HH : Hid (Below w.heap.size w (wr.alloc (.cells #[.int .u8 (97 + (r4 : Int))] 5))) := Lib.hid (HB.out.trans ((below_alloc wr _).mono HB.out.size))
      have HS := Lib.hid (And.intro s1 (And.intro bone hn))
      have b5 : (cs.extract 0 p).size = p := by rw [ByteArray.size_extract]; omega
      have b6 : (cs.extract p cs.size).size = n - p := by rw [ByteArray.size_extract]; omega
      have i3 : (p : Int) ≤ (n : Int) := by omega
      have b7 : ¬ 9223372036854775807 < p + 1 := by omega
      have b8 : ¬ 9223372036854775807 < p + 1 + (n - p) := by omega
      clear hq16 hr4 hq4 hr3 hp hone hn hcu
      by_cases h30 : r3 = 0
      · have f1 : ((r3 : Int) == 0) = true := by simp; omega
        have f1' : (r3 == 0) = true := by simp; omega
        obtain ⟨new, hnew⟩ : ∃ new, new = cs.extract 0 p ++ one ++ cs.extract p cs.size := ⟨_, rfl⟩
        have hnl : new.data.toList = cs.data.toList.take p ++ [cu] ++ cs.data.toList.drop p := by
          rw [hnew, ba_append, ba_append, HS.out.2.1, ba_extract, ba_extract, List.drop_zero, Nat.sub_zero, List.take_of_length_le (l := List.drop p _) (by rw [List.length_drop, ba_length]; omega)]
        have hns : new.size = n + 1 := by
          rw [← ba_length, hnl, List.length_append, List.length_append, List.length_singleton, List.length_take, List.length_drop, ba_length, ← HS.out.2.2]
          omega
        have hlv : Hid (lev A.data.toList new.data.toList ≤ mn + 1) := Lib.hid (by rw [hnl]; have := lev_ins' A.data.toList cs.data.toList cu p; have := HL.out; omega)
        have HNS : Hid (new.size ≤ 40 + (i + 1)) := Lib.hid (by have := HS.out.2.2; omega)
        have HX := Lib.hid (And.intro g1 g2)
        clear hnl hns h30 g1 g2
        go_wp2
        go_region
        rw [← hnew]
        clear hnew
        go_wp2
        exact ⟨⟨i + 1, mn + 1, new, by have := HX.out; omega, by have := HX.out; omega, by go_num, by go_num, rfl, hlv, HNS.out, by omega, Lib.hid (Below.drew HH.out)⟩, by have := HX.out; simp [intOf]; omega⟩
      · have f1 : ((r3 : Int) == 0) = false := by simp; omega
        have f1' : (r3 == 0) = false := by simp; omega
        by_cases hpn : p = n
        · have f2 : ((p : Int) == (n : Int)) = true := by simp; omega
          have f2' : (p == n) = true := by simp; omega
          have HX := Lib.hid (And.intro g1 g2)
          clear hpn h30
          go_wp2
          exact ⟨⟨i + 1, mn, cs, by omega, by omega, by go_num, rfl, rfl, HL, by omega, by omega, HH⟩, by simp [intOf]; omega⟩
        · have f2 : ((p : Int) == (n : Int)) = false := by simp; omega
          have f2' : (p == n) = false := by simp; omega
          have i4 : (p : Int) + 1 ≤ (n : Int) := by omega
          have w3 : IntKind.i64.wrap ((p : Int) + 1) = (p : Int) + 1 := IntWalk.i64_in _ (by omega)
          have c9 : (cs.extract (p + 1) cs.size).size = n - (p + 1) := by rw [ByteArray.size_extract]; have := HS.out.2.2; omega
          have j3 : ((p : Int) + 1).toNat = p + 1 := by omega
          have j4 : (0 : Int) ≤ (p : Int) + 1 := by omega
          by_cases h31 : r3 = 1
          · have f3 : ((r3 : Int) == 1) = true := by simp; omega
            have f3' : (r3 == 1) = true := by simp; omega
            obtain ⟨new, hnew⟩ : ∃ new, new = cs.extract 0 p ++ cs.extract (p + 1) cs.size := ⟨_, rfl⟩
            have hnl : new.data.toList = cs.data.toList.take p ++ cs.data.toList.drop (p + 1) := by
              rw [hnew, ba_append, ba_extract, ba_extract, List.drop_zero, Nat.sub_zero, List.take_of_length_le (l := List.drop (p + 1) _) (by rw [List.length_drop, ba_length]; omega)]
            have hns : new.size ≤ n := by
              rw [← ba_length, hnl, List.length_append, List.length_take, List.length_drop, ba_length, ← HS.out.2.2]
              omega
            have hlv : Hid (lev A.data.toList new.data.toList ≤ mn + 1) := Lib.hid (by rw [hnl]; have := lev_cut A.data.toList cs.data.toList p (by rw [ba_length, ← HS.out.2.2]; omega); have := HL.out; omega)
            have HNS : Hid (new.size ≤ 40 + (i + 1)) := Lib.hid (by have := HS.out.2.2; omega)
            have b9 : ¬ 9223372036854775807 < p + (n - (p + 1)) := by omega
            have HX := Lib.hid (And.intro g1 g2)
            clear hnl hns h30 h31 hpn g1 g2
            go_wp2
            go_region
            rw [← hnew]
            clear hnew
            go_wp2
            exact ⟨⟨i + 1, mn + 1, new, by have := HX.out; omega, by have := HX.out; omega, by go_num, by go_num, rfl, hlv, HNS.out, by omega, Lib.hid (Below.drew HH.out)⟩, by have := HX.out; simp [intOf]; omega⟩
          · have f3 : ((r3 : Int) == 1) = false := by simp; omega
            have f3' : (r3 == 1) = false := by simp; omega
            obtain ⟨new, hnew⟩ : ∃ new, new = cs.extract 0 p ++ one ++ cs.extract (p + 1) cs.size := ⟨_, rfl⟩
            have hnl : new.data.toList = cs.data.toList.take p ++ [cu] ++ cs.data.toList.drop (p + 1) := by
              rw [hnew, ba_append, ba_append, HS.out.2.1, ba_extract, ba_extract, List.drop_zero, Nat.sub_zero, List.take_of_length_le (l := List.drop (p + 1) _) (by rw [List.length_drop, ba_length]; omega)]
            have hns : new.size ≤ n := by
              rw [← ba_length, hnl, List.length_append, List.length_append, List.length_singleton, List.length_take, List.length_drop, ba_length, ← HS.out.2.2]
              omega
            have hlv : Hid (lev A.data.toList new.data.toList ≤ mn + 1) := Lib.hid (by rw [hnl]; have := lev_swap A.data.toList cs.data.toList cu p (by rw [ba_length, ← HS.out.2.2]; omega); have := HL.out; omega)
            have HNS : Hid (new.size ≤ 40 + (i + 1)) := Lib.hid (by have := HS.out.2.2; omega)
            have b9 : ¬ 9223372036854775807 < p + 1 + (n - (p + 1)) := by omega
            have HX := Lib.hid (And.intro g1 g2)
            clear hnl hns h30 h31 hpn g1 g2
            go_wp2
            go_region
            rw [← hnew]
            clear hnew
            go_wp2
            exact ⟨⟨i + 1, mn + 1, new, by have := HX.out; omega, by have := HX.out; omega, by go_num, by go_num, rfl, hlv, HNS.out, by omega, Lib.hid (Below.drew HH.out)⟩, by have := HX.out; simp [intOf]; omega⟩
    · obtain ⟨y, hy⟩ : ∃ y, lev A.data.toList cs.data.toList = y := ⟨_, rfl⟩
      have QO := Lib.hid (of_eq A cs y (by omega) (by omega) hy)
      have hyn : y ≤ mn := by rw [← hy]; exact HL.out
      have k1 : decide ((y : Int) ≤ (mn : Int)) = true := decide_eq_true (by omega)
      have k2 : decide (y ≤ mn) = true := decide_eq_true hyn
      clear hy hyn
      by_cases hlt : i < ll
      · have d1 : decide ((i : Int) < (ll : Int)) = true := decide_eq_true (by omega)
        have d1' : decide (i < ll) = true := decide_eq_true hlt
        have d2 : decide ((i : Int) < 6) = false := decide_eq_false (by omega)
        have d2' : decide (i < 6) = false := decide_eq_false (by omega)
        clear hgo hlt
        go_wp2_with (go_at_call 9; (with_reducible refine (QO.out _).mono ?_); rintro e w6 ⟨rfl, hb6⟩)
        go_ret
        exact ⟨rfl, HB.out.trans (hb6.mono HB.out.size)⟩
      · have d1 : decide ((i : Int) < (ll : Int)) = false := decide_eq_false (by omega)
        have d1' : decide (i < ll) = false := decide_eq_false hlt
        clear hgo hlt
        go_wp2_with (go_at_call 9; (with_reducible refine (QO.out _).mono ?_); rintro e w6 ⟨rfl, hb6⟩)
        go_ret
        exact ⟨rfl, HB.out.trans (hb6.mono HB.out.size)⟩

theorem scripts_in (a0 b0 : ByteArray) (l : List Nat) (v : Value) (w : World) (ha0 : a0.size ≤ maxLen) (hb0 : b0.size ≤ maxLen) (hl : Row16 w v l) (hbk : ∀ b o m c, v = .slice (some ⟨b, o, none⟩) m c → b < w.heap.size) (hv : ∃ a n c, v = .slice a n c ∧ n ≤ c ∧ c ≤ 9223372036854775807) :
    Calls Try.prog 5 #[.string a0, .string b0, v] w fun e w' => e = .returned (.bool true) ∧ Below w.heap.size w w' := by
  refine scripts_walk a0 b0 l v w ha0 hb0 hl ?_ hbk
  obtain ⟨a, n, c, rfl, h1, h2⟩ := hv
  obtain ⟨ad, c', e, _⟩ := hl
  injection e with _ e _
  omega
end Go.Proofs.Ytbdbcfidbapioaa

/-
  The walks of vary.Size and vary.laid. The walk of vary.Get.
-/
import Derived.Test.YtjiilmiikejnhaaDoorP04
import Derived.Test.YtjiilmiikejnhaaDoorP01
import Derived.Test.YtjiilmiikejnhaaDoorP07
import Derived.WalkKit
import Derived.WalkSpells
import Derived.WalkLawsBesides
import Derived.Lib.Hide
import Derived.Deep.QuietTactic
import Derived.BigQuiet
import Derived.Lib.QuietBelow
set_option linter.unusedVariables false
set_option linter.unusedSimpArgs false
namespace Go.Proofs.YtjiilmiikejnhaaDoor
open Go.RowKit

theorem size_any (n : Nat) (w : World) (hn : n < 18446744073709551616) :
    Calls Tryd.prog 34 #[.int .u64 n] w fun e w' => e = .returned (.int .i64 ((Plain.size n : Nat) : Int)) ∧ w = w' := by
  unfold Plain.size
  by_cases h : n ≤ 247
  · have h' : (n : Int) ≤ 247 := by omega
    rw [if_pos h]
    clear h
    go_enter Tryd.func34, Tryd.ntmps34
    go_wp2
    go_ret
    exact ⟨rfl, rfl⟩
  · have h' : ¬ (n : Int) ≤ 247 := by omega
    rw [if_neg h]
    obtain ⟨b, hb⟩ : ∃ b : Nat, b = Lib.bitLen n := ⟨_, rfl⟩
    have hnb := Plain.nb_bitLen (n := n) (by omega) hn
    obtain ⟨h1, h2, _⟩ := Plain.nb_bounds hn
    rw [← hb] at hnb
    have e : ((b : Int) + 7) / 8 = ((Plain.nb n : Nat) : Int) := by omega
    have hb2 : b < 100 := by omega
    have c : ∀ w0, Calls Tryd.prog 52 #[.int .u64 n] w0 fun e w' => e = .returned (.int .i64 (b : Int)) ∧ w' = w0 := fun w0 => by
      have := Tryd.bits_Len64 (n : Int) w0 (by omega) (by omega)
      rwa [Int.toNat_natCast, ← hb] at this
    clear h hb hnb
    go_enter Tryd.func34, Tryd.ntmps34
    go_wp2_with (go_at_call 52; go_must (refine (c _).mono ?_); rintro e w' ⟨rfl, rfl⟩)
    go_ret
    exact ⟨by simp, rfl⟩

/-- The nine cells of a list of bytes. -/
def nine (l : List UInt8) : Array Value := #[.int .u8 ((l.getD 0 0).toNat : Int), .int .u8 ((l.getD 1 0).toNat : Int), .int .u8 ((l.getD 2 0).toNat : Int), .int .u8 ((l.getD 3 0).toNat : Int), .int .u8 ((l.getD 4 0).toNat : Int), .int .u8 ((l.getD 5 0).toNat : Int), .int .u8 ((l.getD 6 0).toNat : Int), .int .u8 ((l.getD 7 0).toNat : Int), .int .u8 ((l.getD 8 0).toNat : Int)]

theorem laid_small (n : Nat) (w : World) (hn : n ≤ 247) :
    Calls Tryd.prog 73 #[.int .u64 n] w fun e w' => e = .returned (.agg (nine (Plain.full n))) ∧ Below w.heap.size w w' := by
  have hf : nine (Plain.full n) = #[.int .u8 n, .int .u8 0, .int .u8 0, .int .u8 0, .int .u8 0, .int .u8 0, .int .u8 0, .int .u8 0, .int .u8 0] := by
    unfold Plain.full nine; rw [if_pos hn]
    simp [List.replicate, Nat.mod_eq_of_lt (show n < 256 by omega)]
  rw [hf]
  have h' : (n : Int) ≤ 247 := by omega
  go_enter Tryd.func73, Tryd.ntmps73
  go_wp2
  refine bodyPost_ret (v := .agg #[.int .u8 n, .int .u8 0, .int .u8 0, .int .u8 0, .int .u8 0, .int .u8 0, .int .u8 0, .int .u8 0, .int .u8 0]) (by simp [results, Tryd.results73, go_sem]) rfl ⟨rfl, ?_⟩
  exact (Below.refl _ _).alloc (Nat.le_refl _) _

/-- What has been laid when k of the lower bytes are in their places. -/
def laidTill (hd n k : Nat) : List UInt8 := UInt8.ofNat hd :: (Plain.low n k ++ List.replicate (8 - k) 0)

theorem laidTill_length (hd n k : Nat) (hk : k ≤ 8) : (laidTill hd n k).length = 9 := by simp [laidTill, Plain.low_length]; omega

theorem laidTill_next (hd n k : Nat) (hk : k < 8) : (laidTill hd n k).set (1 + k) (UInt8.ofNat (n / 256 ^ k % 256)) = laidTill hd n (k + 1) := by
  unfold laidTill
  rw [show 1 + k = k + 1 by omega, List.set_cons_succ, List.set_append_right _ _ (by simp [Plain.low_length])]
  congr 1
  rw [Plain.low_length, Nat.sub_self, show 8 - k = (8 - (k + 1)) + 1 by omega, List.replicate_succ, List.set_cons_zero, ← Plain.low_succ n k, List.append_assoc]
  rfl

theorem rowOf_put {w : World} {b : Nat} {l : List UInt8} (h : RowOf w b l) (i : Nat) (hi : i < l.length) (y : UInt8) (v : Int) (hv : v = (y.toNat : Int)) :
    RowOf (w.setCell ⟨b, i, none⟩ (.int .u8 v)) b (l.set i y) := hv ▸ rowOf_set h i hi y

theorem low_byte (n k : Nat) : (n : Int) / 2 ^ (8 * k) % 256 = ((UInt8.ofNat (n / 256 ^ k % 256)).toNat : Int) := by
  rw [show (2 : Int) ^ (8 * k) = ((256 ^ k : Nat) : Int) by rw [Int.pow_mul]; simp]
  rw [UInt8.toNat_ofNat', show (2 : Nat) ^ 8 = 256 from rfl, Nat.mod_mod, ← Int.natCast_ediv]
  rfl

theorem laid_great (n : Nat) (w : World) (hn : n < 18446744073709551616) (h : ¬ n ≤ 247) :
    Calls Tryd.prog 73 #[.int .u64 n] w fun e w' => e = .returned (.agg (nine (Plain.full n))) ∧ Below w.heap.size w w' := by
  have h' : ¬ (n : Int) ≤ 247 := by omega
  obtain ⟨h1, h2, _⟩ := Plain.nb_bounds hn
  obtain ⟨sz, hsz⟩ : ∃ sz : Nat, sz = Plain.size n := ⟨_, rfl⟩
  have hsz2 : sz = 1 + Plain.nb n := by rw [hsz]; unfold Plain.size; rw [if_neg h]
  obtain ⟨hd, hhd⟩ : ∃ hd : Nat, hd = 247 + Plain.nb n := ⟨_, rfl⟩
  have hs9 : sz ≤ 9 := by omega
  have e1 : 247 + (sz : Int) - 1 = (hd : Int) := by omega
  have hd8 : hd < 256 := by omega
  obtain ⟨l, hl⟩ : ∃ l, l = Plain.full n := ⟨_, rfl⟩
  have hfull : l = laidTill hd n 8 := by rw [hl]; unfold Plain.full laidTill; rw [if_neg h, hhd]; simp
  rw [← hl]
  clear hl
  have c : ∀ w0, Calls Tryd.prog 34 #[.int .u64 n] w0 fun e w' => e = .returned (.int .i64 (sz : Int)) ∧ w0 = w' := fun w0 => hsz ▸ size_any n w0 hn
  clear hsz hsz2 hhd h h1 h2
  have HF := Lib.hid hfull; clear hfull
  go_enter Tryd.func73, Tryd.ntmps73
  go_wp2_with (go_at_call 34; go_must (refine (c _).mono ?_); rintro e w' ⟨rfl, rfl⟩)
  go_loopw [16] (fun i wr => ∃ k : Nat, k ≤ 8 ∧ i = .int .i64 k ∧ RowOf wr w.heap.size (laidTill hd n k) ∧ Below w.heap.size w wr ∧ w.heap.size < wr.heap.size) (fun i _ => 8 - (intOf i).toNat)
  case atStart =>
    refine ⟨0, by omega, rfl, ?_, (Below.refl _ _).alloc (Nat.le_refl _) _, by simp⟩
    have hh : (hd : Int) = ((UInt8.ofNat hd).toNat : Int) := by simp [Nat.mod_eq_of_lt hd8]
    constructor
    · intro i hi
      rw [laidTill_length _ _ _ (by omega)] at hi
      rcases (show i = 0 ∨ i = 1 ∨ i = 2 ∨ i = 3 ∨ i = 4 ∨ i = 5 ∨ i = 6 ∨ i = 7 ∨ i = 8 by omega) with rfl | rfl | rfl | rfl | rfl | rfl | rfl | rfl | rfl <;> simp [go_sem, laidTill, Plain.low, List.replicate, Nat.mod_eq_of_lt hd8]
    · intro i _
      exact World.frozen?_alloc_at (w := w) (hn := rfl) ..
  case round =>
    obtain ⟨k, hk, rfl, hr, hb, hlt⟩ := hrel
    by_cases hk8 : k < 8
    · have hlen := laidTill_length hd n k hk
      have hc := hr.1 (1 + k) (by omega)
      have hfz := hr.2 (1 + k) (by omega)
      have HR := Lib.hid hr; clear hr
      go_wp2
      refine ⟨⟨k + 1, by omega, by go_num, ?_, hb.setCell (p := ⟨w.heap.size, 1 + k, none⟩) (Nat.le_refl _) _, by simpa using hlt⟩, by simp [intOf]; omega⟩
      rw [← laidTill_next hd n k hk8]
      exact rowOf_put HR.out _ (by omega) _ _ (low_byte n k)
    · obtain rfl : k = 8 := by omega
      have hlen := laidTill_length hd n 8 hk
      rw [← HF.out] at hr hlen
      have g : ∀ i, i < 9 → ∃ x : Int, x = ((l.getD i 0).toNat : Int) ∧ wr.cell? ⟨w.heap.size, i, none⟩ = some (.int .u8 x) ∧ wr.frozen? ⟨w.heap.size, i, none⟩ = false := fun i hi => ⟨_, rfl, hr.1 i (by omega), hr.2 i (by omega)⟩
      obtain ⟨x0, e0, c0, f0⟩ := g 0 (by omega)
      obtain ⟨x1, e1, c1, f1⟩ := g 1 (by omega)
      obtain ⟨x2, e2, c2, f2⟩ := g 2 (by omega)
      obtain ⟨x3, e3, c3, f3⟩ := g 3 (by omega)
      obtain ⟨x4, e4, c4, f4⟩ := g 4 (by omega)
      obtain ⟨x5, e5, c5, f5⟩ := g 5 (by omega)
      obtain ⟨x6, e6, c6, f6⟩ := g 6 (by omega)
      obtain ⟨x7, e7, c7, f7⟩ := g 7 (by omega)
      obtain ⟨x8, e8, c8, f8⟩ := g 8 (by omega)
      have hn9 : nine l = #[.int .u8 x0, .int .u8 x1, .int .u8 x2, .int .u8 x3, .int .u8 x4, .int .u8 x5, .int .u8 x6, .int .u8 x7, .int .u8 x8] := by
        unfold nine; rw [e0, e1, e2, e3, e4, e5, e6, e7, e8]
      have H9 := Lib.hid hn9
      clear e0 e1 e2 e3 e4 e5 e6 e7 e8 hn9 g hr HF hlen
      go_wp2
      refine bodyPost_ret (v := .agg #[.int .u8 x0, .int .u8 x1, .int .u8 x2, .int .u8 x3, .int .u8 x4, .int .u8 x5, .int .u8 x6, .int .u8 x7, .int .u8 x8]) (by simp [results, Tryd.results73, go_sem, c0, c1, c2, c3, c4, c5, c6, c7, c8]) rfl ⟨by rw [H9.out], ?_⟩
      have st : ∀ (w1 : World) (i : Nat) (v : Value), Below w.heap.size w w1 → Below w.heap.size w (w1.setCell ⟨w.heap.size, i, none⟩ v) := fun w1 i v h => h.setCell (p := ⟨w.heap.size, i, none⟩) (Nat.le_refl _) _
      exact st _ _ _ (st _ _ _ (st _ _ _ (st _ _ _ (st _ _ _ (st _ _ _ (st _ _ _ (st _ _ _ (st _ _ _ hb))))))))

theorem laid_any (n : Nat) (w : World) (hn : n < 18446744073709551616) :
    Calls Tryd.prog 73 #[.int .u64 n] w fun e w' => e = .returned (.agg (nine (Plain.full n))) ∧ Below w.heap.size w w' := by
  by_cases h : n ≤ 247
  · exact laid_small n w h
  · exact laid_great n w hn h

end Go.Proofs.YtjiilmiikejnhaaDoor
namespace Go.Proofs.YtjiilmiikejnhaaDoor
open Go.RowKit

/-- What Get answers, as the program's value. -/
def gotten (r : Nat × Int × Nat) : Value := .tuple #[.int .u64 (r.1 : Int), .int .i64 r.2.1, .int .i64 (r.2.2 : Int)]

theorem get_below (s : ByteArray) (a : Int) (w : World) (ha : a < 0) :
    Calls Tryd.prog 83 #[.string s, .int .i64 a] w fun e w' => e = .returned (.tuple #[.int .u64 0, .int .i64 a, .int .i64 3]) ∧ w = w' := by
  go_enter Tryd.func83, Tryd.ntmps83
  go_wp2
  go_ret3
  exact ⟨rfl, rfl⟩

theorem get_behind (s : ByteArray) (a : Int) (w : World) (ha : 0 ≤ a) (h : (s.size : Int) ≤ a) :
    Calls Tryd.prog 83 #[.string s, .int .i64 a] w fun e w' => e = .returned (.tuple #[.int .u64 0, .int .i64 a, .int .i64 3]) ∧ w = w' := by
  go_enter Tryd.func83, Tryd.ntmps83
  go_wp2
  go_ret3
  exact ⟨rfl, rfl⟩

theorem get_one (s : ByteArray) (k : Nat) (w : World) (hs : s.size ≤ maxLen) (hk : k < s.size) (hb : s[k].toNat ≤ 247) :
    Calls Tryd.prog 83 #[.string s, .int .i64 k] w fun e w' => e = .returned (.tuple #[.int .u64 s[k].toNat, .int .i64 (k + 1), .int .i64 0]) ∧ w = w' := by
  unfold maxLen at hs
  have hb' : (s[k].toNat : Int) ≤ 247 := by omega
  go_enter Tryd.func83, Tryd.ntmps83
  go_wp2
  go_ret3
  exact ⟨rfl, rfl⟩

theorem or_step (x j b : Nat) (hx : x < 256 ^ j) (hj : j < 8) (hb : b < 256) :
    bits .or .u64 (x : Int) (IntKind.u64.wrap (IntKind.u64.wrap (b : Int) * 2 ^ (8 * j))) = ((x + 256 ^ j * b : Nat) : Int) := by
  have hp : (2 : Nat) ^ (8 * j) = 256 ^ j := by rw [Nat.pow_mul]
  have h1 : 256 ^ j * b + x < 18446744073709551616 := by
    have : 256 ^ j * (b + 1) ≤ 256 ^ j * 256 := Nat.mul_le_mul_left _ (by omega)
    have h8 : 256 ^ (j + 1) ≤ 18446744073709551616 := Plain.pow_le8 (by omega)
    rw [Nat.pow_succ] at h8
    rw [Nat.mul_add] at this
    omega
  have e1 : IntKind.u64.wrap (b : Int) = (b : Int) := by simp [IntKind.wrap, IntKind.bits, IntKind.signed]; omega
  have hpi : (2 : Int) ^ (8 * j) = ((256 ^ j : Nat) : Int) := by rw [← hp]; simp
  have e2 : IntKind.u64.wrap ((b : Int) * 2 ^ (8 * j)) = ((256 ^ j * b : Nat) : Int) := by
    rw [hpi, Int.mul_comm, ← Int.natCast_mul]
    obtain ⟨q, hq⟩ : ∃ q, q = 256 ^ j * b := ⟨_, rfl⟩
    rw [← hq] at h1 ⊢
    simp [IntKind.wrap, IntKind.bits, IntKind.signed]
    omega
  rw [e1, e2, u64_or_nat _ _ (by omega) (by omega), ← hp, Nat.or_comm, ← Nat.two_pow_add_eq_or_of_lt (by rw [hp]; exact hx) b, Nat.add_comm]

set_option maxHeartbeats 400000 in
theorem get_short (s : ByteArray) (k m : Nat) (T : ByteArray) (w : World) (hs : s.size ≤ 9223372036854775807) (hk : k < s.size) (hb : ¬ (s[k].toNat : Int) ≤ 247) (hm : (s[k].toNat : Int) - 247 = (m : Int)) (hm9 : m ≤ 8) (hT : s.extract (k + 1) s.size = T) (ht : T.size < m) :
    Calls Tryd.prog 83 #[.string s, .int .i64 k] w fun e w' => e = .returned (.tuple #[.int .u64 0, .int .i64 k, .int .i64 3]) ∧ w = w' := by
  go_enter Tryd.func83, Tryd.ntmps83
  go_wp2
  go_ret3
  exact ⟨rfl, rfl⟩

set_option maxHeartbeats 400000 in
theorem get_long (s : ByteArray) (k m : Nat) (T : ByteArray) (w : World) (hs : s.size ≤ 9223372036854775807) (hk : k < s.size) (hb : ¬ (s[k].toNat : Int) ≤ 247) (hm : (s[k].toNat : Int) - 247 = (m : Int)) (hm9 : m ≤ 8) (hT : s.extract (k + 1) s.size = T) (ht : ¬ T.size < m) (hkm : k + 1 + m ≤ s.size)
    (v sz : Nat) (hv : Plain.val (T.data.toList.take m) = v) (hv64 : v < 18446744073709551616) (hsz : Plain.size v = sz) (_hsz9 : sz ≤ 9) (r : Value) (hr : r = if sz = 1 + m then .tuple #[.int .u64 v, .int .i64 (k + 1 + m), .int .i64 0] else .tuple #[.int .u64 0, .int .i64 k, .int .i64 5]) :
    Calls Tryd.prog 83 #[.string s, .int .i64 k] w fun e w' => e = .returned r ∧ w = w' := by
  have q11 : ∀ w0, Calls Tryd.prog 34 #[.int .u64 v] w0 fun e w' => e = .returned (.int .i64 (sz : Int)) ∧ w0 = w' := fun w0 => hsz ▸ size_any v w0 hv64
  have HV := Lib.hid hv; clear hv hsz
  have HR := Lib.hid hr; clear hr
  have ht' : m ≤ T.size := by omega
  go_enter Tryd.func83, Tryd.ntmps83
  go_wp2
  go_loop [4, 44] (fun n i => ∃ j x : Nat, j ≤ m ∧ i = .int .i64 j ∧ n = .int .u64 x ∧ Plain.val (T.data.toList.take j) = x ∧ x < 256 ^ j) (fun _ i => m - (intOf i).toNat)
  case atStart => exact ⟨0, 0, Nat.zero_le _, rfl, rfl, rfl, by simp⟩
  case round =>
    obtain ⟨j, x, hj, rfl, rfl, hx, hxl⟩ := hrel
    have HX := Lib.hid hx; clear hx
    have HL := Lib.hid hxl; clear hxl
    by_cases hlt : j < m
    · have hjT : j < T.size := by omega
      go_wp2
      have hbt : T[j].toNat < 256 := T[j].toNat_lt
      have e : Plain.val (T.data.toList.take (j + 1)) = x + 256 ^ j * T[j].toNat := by
        rw [Plain.val_take_succ (by simpa using hjT), HX.out, byte_getD T j hjT]
      refine ⟨⟨j + 1, _, by omega, by go_num, ?_, e, ?_⟩, by simp [intOf]; omega⟩
      · rw [or_step x j _ HL.out (by omega) hbt]
      · rw [← e]
        refine Nat.lt_of_lt_of_le (Plain.val_lt _) ?_
        rw [List.length_take]
        exact Nat.pow_le_pow_right (by omega) (by omega)
    · obtain rfl : j = m := by omega
      obtain rfl : x = v := by rw [← HX.out, HV.out]
      by_cases h : sz = 1 + j
      · have h' : ((sz : Int) != 1 + (j : Int)) = false := by simp; omega
        go_wp2_with (go_at_call 34; go_must (refine (q11 _).mono ?_); rintro e w' ⟨rfl, rfl⟩)
        go_ret3
        exact ⟨(congrArg Ending.returned (HR.out.trans (if_pos h))).symm, rfl⟩
      · have h' : ((sz : Int) != 1 + (j : Int)) = true := by simp; omega
        go_wp2_with (go_at_call 34; go_must (refine (q11 _).mono ?_); rintro e w' ⟨rfl, rfl⟩)
        go_ret3
        exact ⟨(congrArg Ending.returned (HR.out.trans (if_neg h))).symm, rfl⟩

theorem getL_cons (b : UInt8) (r : List UInt8) : Plain.getL (b :: r) = if b.toNat ≤ 247 then (b.toNat, 1, 0) else if r.length < b.toNat - 247 then (0, 0, 3) else
    if Plain.size (Plain.val (r.take (b.toNat - 247))) = 1 + (b.toNat - 247) then (Plain.val (r.take (b.toNat - 247)), 1 + (b.toNat - 247), 0) else (0, 0, 5) := rfl

theorem get_any (s : ByteArray) (a : Int) (w : World) (hs : s.size ≤ maxLen) :
    Calls Tryd.prog 83 #[.string s, .int .i64 a] w fun e w' => e = .returned (gotten (Plain.get s.data.toList a)) ∧ w = w' := by
  have hs' : s.size ≤ 9223372036854775807 := hs
  have hL : s.data.toList.length = s.size := ba_length s
  unfold gotten Plain.get
  rw [hL]
  by_cases h : a < 0 ∨ (s.size : Int) ≤ a
  · rw [if_pos h]
    by_cases ha : a < 0
    · exact get_below s a w ha
    · exact get_behind s a w (by omega) (by omega)
  · rw [if_neg h]
    obtain ⟨k, rfl⟩ : ∃ k : Nat, a = (k : Int) := ⟨a.toNat, by omega⟩
    have hk : k < s.size := by omega
    have h256 : s[k].toNat < 256 := s[k].toNat_lt
    have hd : s.data.toList.drop k = s[k] :: s.data.toList.drop (k + 1) := by
      rw [List.drop_eq_getElem_cons (by rw [hL]; exact hk)]; rfl
    rw [Int.toNat_natCast, hd]
    have hdl : (s.data.toList.drop (k + 1)).length = s.size - (k + 1) := by rw [List.length_drop, hL]
    rw [getL_cons]
    by_cases hb : s[k].toNat ≤ 247
    · rw [if_pos hb]
      exact get_one s k w hs hk hb
    · rw [if_neg hb]
      have hT : (s.extract (k + 1) s.size).data.toList = s.data.toList.drop (k + 1) := by
        rw [ba_extract, List.take_of_length_le (by rw [hdl]; exact Nat.le_refl _)]
      have hTs : (s.extract (k + 1) s.size).size = s.size - (k + 1) := by rw [← ba_length, hT, hdl]
      rw [hdl]
      generalize hme : s[k].toNat - 247 = m
      have hmi : (s[k].toNat : Int) - 247 = (m : Int) := by omega
      have hm8 : m ≤ 8 := by omega
      have hbi : ¬ (s[k].toNat : Int) ≤ 247 := by omega
      obtain ⟨T, hTe⟩ : ∃ T, s.extract (k + 1) s.size = T := ⟨_, rfl⟩
      rw [hTe] at hT hTs
      by_cases hm : s.size - (k + 1) < m
      · rw [if_pos hm]
        refine (get_short s k m T w hs' hk hbi hmi hm8 hTe (by omega)).mono ?_
        rintro e w' ⟨rfl, rfl⟩
        exact ⟨by simp, rfl⟩
      · rw [if_neg hm]
        obtain ⟨v, hv⟩ : ∃ v, Plain.val ((s.data.toList.drop (k + 1)).take m) = v := ⟨_, rfl⟩
        have hvl : v < 18446744073709551616 := hv ▸ Plain.val_lt64 (by rw [List.length_take]; omega)
        rw [hv]
        refine (get_long s k m T w hs' hk hbi hmi hm8 hTe (by omega) (by omega) v (Plain.size v) (by rw [hT, hv]) hvl rfl (Plain.size_bounds hvl).2 _ rfl).mono ?_
        rintro e w' ⟨rfl, rfl⟩
        refine ⟨?_, rfl⟩
        split <;> simp
        omega

end Go.Proofs.YtjiilmiikejnhaaDoor

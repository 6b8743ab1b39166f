/-
  The walks of the document's answer for layer 2: bytes, Put, Get.
-/
import Derived.Test.YtjiilmiikejnhaaDoorP08
import Derived.Laws.AppendOwn
import Derived.RangeFuncRecord
import Derived.IntWalk
set_option linter.unusedVariables false
set_option linter.unusedSimpArgs false
namespace Go.Proofs.YtjiilmiikejnhaaDoor
open Go.RowKit

theorem nb_small {n : Nat} (h : n < 256) : Plain.nb n = 1 := Plain.nb_eq (by omega) (Nat.le_refl _) (by simpa using h) (by omega)

theorem nb_div {n : Nat} (h : n < 18446744073709551616) (h2 : 256 ≤ n) : Plain.nb n = Plain.nb (n / 256) + 1 := by
  obtain ⟨a, b, c, d⟩ := Plain.nb_bounds (n := n / 256) (by omega)
  refine Plain.nb_eq h (by omega) ?_ fun _ => ?_
  · rw [Nat.pow_succ]; omega
  · rw [Nat.add_sub_cancel]
    rcases Nat.lt_or_ge (Plain.nb (n / 256)) 2 with g | g
    · rw [show Plain.nb (n / 256) = 1 by omega]; simpa using h2
    · have d' := d g
      obtain ⟨m, hm⟩ : ∃ m, Plain.nb (n / 256) = m + 1 := ⟨Plain.nb (n / 256) - 1, by omega⟩
      rw [hm] at d' ⊢
      rw [Nat.add_sub_cancel] at d'
      rw [Nat.pow_succ]; omega

set_option maxHeartbeats 400000 in
theorem bytes_any (n : Nat) (w : World) (hn : n < 18446744073709551616) :
    Calls Tryd.prog 76 #[.int .u64 n] w fun e w' => e = .returned (.int .i64 ((Plain.nb n : Nat) : Int)) ∧ w = w' := by
  have hb := Plain.nb_bounds hn
  go_enter Tryd.func76, Tryd.ntmps76
  go_wp2
  go_loop [0, 3] (fun x m => ∃ y k : Nat, x = .int .u64 y ∧ m = .int .i64 (k + 1 : Nat) ∧ y < 18446744073709551616 ∧ k + Plain.nb y = Plain.nb n) (fun x _ => (intOf x).toNat)
  case atStart => exact ⟨n, 0, rfl, rfl, hn, by omega⟩
  case round =>
    obtain ⟨y, k, rfl, rfl, hy, hk⟩ := hrel
    have hb2 := Plain.nb_bounds hy
    by_cases h : y < 256
    · have h' : ¬ (256 : Int) ≤ (y : Int) := by omega
      have hk1 : k + 1 = Plain.nb n := by rw [← hk, nb_small h]
      rw [hk1]
      clear hb hb2 hk hk1
      go_wp2
      go_ret
      exact ⟨rfl, rfl⟩
    · have h' : (256 : Int) ≤ (y : Int) := by omega
      have hd := nb_div hy (by omega)
      have hk8 : k ≤ 8 := by omega
      obtain ⟨q, hq⟩ : ∃ q : Nat, q = y / 256 := ⟨_, rfl⟩
      have e1 : (y : Int) / 256 = (q : Int) := by omega
      have hlt : q < y := by omega
      rw [← hq] at hd
      have hq64 : q < 18446744073709551616 := by omega
      have HK : k + 1 + Plain.nb q = Plain.nb n := by omega
      clear hq hd hk hb hb2
      have HK' := Lib.hid HK; clear HK
      go_wp2
      exact ⟨⟨q, k + 1, rfl, by push_cast; rfl, hq64, HK'.out⟩, by simp [intOf]; omega⟩

/-- A slice of bytes that the call has made, as it stands in memory. -/
theorem bytes_of_owns {W : World} {base n : Nat} {v : Value} {l : List UInt8} (h : W.ownsRow base 5 1 v n (Lib.byteCells l)) (hn : 0 < n) :
    ∃ g cap, v = .slice (some ⟨g, 0, none⟩) l.length cap ∧ RowOf W g l := by
  have hl : l.length = n := by have := h.1; simpa [Lib.byteCells] using this
  rcases h.2 with ⟨_, h0⟩ | ⟨g, cap, cur, rfl, _, hg, _, _, _, ht⟩
  · omega
  · refine ⟨g, cap, by rw [hl], fun i hi => ?_, fun i hi => Lib.frozen_of_heap hg i⟩
    have hx : (Lib.byteCells l)[i]? = some (.int .u8 ((l.getD i 0).toNat : Int)) := by simp [Lib.byteCells, hi]
    rw [← ht, List.getElem?_take] at hx
    split at hx
    · rw [Array.getElem?_toList] at hx
      simp [World.cell?, hg, hx]
    · cases hx

theorem low_snoc (n k : Nat) : Plain.low n k ++ [UInt8.ofNat (n / 256 ^ k % 256)] = Plain.low n (k + 1) := by
  exact Plain.low_succ n k

theorem rem256 (x : Nat) : (x : Int) % 256 % 256 = ((UInt8.ofNat (x % 256)).toNat : Int) := by
  rw [UInt8.toNat_ofNat']; omega

theorem refPut_small (n : Nat) (w : World) (hn : n ≤ 247) :
    Calls Tryd.prog 51 #[.int .u64 n] w fun e w' => e = .returned (.string ⟨(Plain.enc n).toArray⟩) ∧ Below w.heap.size w w' := by
  have he : Plain.enc n = [UInt8.ofNat n] := by unfold Plain.enc; rw [if_pos hn]
  rw [he]
  have h' : (n : Int) < 248 := by omega
  have hrow : RowOf (w.alloc (.cells #[.int .u8 n] 5)) w.heap.size [UInt8.ofNat n] := by
    constructor
    · intro i hi
      obtain rfl : i = 0 := by simp at hi; omega
      simp [go_sem, Nat.mod_eq_of_lt (show n < 256 by omega)]
    · intro i _
      exact World.frozen?_alloc_at (w := w) (hn := rfl) ..
  have hcv := rowOf_str (c := 1) hrow
  rw [show ([UInt8.ofNat n] : List UInt8).length = 1 from rfl] at hcv
  clear he hrow
  go_enter Tryd.func51, Tryd.ntmps51
  go_wp2
  go_ret
  exact ⟨rfl, (Below.refl _ _).alloc (Nat.le_refl _) _⟩

set_option maxHeartbeats 1000000 in
theorem refPut_great (n : Nat) (w : World) (hn : n < 18446744073709551616) (h : ¬ n ≤ 247) :
    Calls Tryd.prog 51 #[.int .u64 n] w fun e w' => e = .returned (.string ⟨(Plain.enc n).toArray⟩) ∧ Below w.heap.size w w' := by
  have h' : ¬ (n : Int) < 248 := by omega
  obtain ⟨h1, h2, _⟩ := Plain.nb_bounds hn
  have he : Plain.enc n = UInt8.ofNat (247 + Plain.nb n) :: Plain.low n (Plain.nb n) := by unfold Plain.enc; rw [if_neg h]
  have c14 := fun w0 => bytes_any n w0 hn
  obtain ⟨m, hm⟩ : ∃ m, m = Plain.nb n := ⟨_, rfl⟩
  rw [← hm] at h1 h2 he c14
  obtain ⟨hd, hhd⟩ : ∃ hd, hd = 247 + m := ⟨_, rfl⟩
  have hhd' : 247 + (m : Int) = (hd : Int) := by omega
  have hd8 : hd < 256 := by omega
  rw [← hhd] at he
  rw [he]
  obtain ⟨i0, hi, hz0, hz1, hz2⟩ := info_parts i5
  clear he hhd hm h
  go_enter Tryd.func51, Tryd.ntmps51
  go_wp2_with (go_at_call 76; go_must (refine (c14 _).mono ?_); rintro e w' ⟨rfl, rfl⟩)
  go_loopw [0, 4, 5] (fun x v i wr => ∃ k : Nat, k ≤ m ∧ i = .int .i64 k ∧ x = .int .u64 ((n / 256 ^ k : Nat) : Int) ∧ wr.ownsRow w.heap.size 5 1 v (k + 1) (Lib.byteCells (UInt8.ofNat hd :: Plain.low n k)) ∧ Below w.heap.size w wr ∧ w.heap.size < wr.heap.size) (fun _ _ i _ => m - (intOf i).toNat)
  case atStart =>
    refine ⟨0, by omega, rfl, by simp, ?_, (Below.refl _ _).alloc (Nat.le_refl _) _, by simp⟩
    refine ⟨by simp [Lib.byteCells, Plain.low], .inr ⟨w.heap.size, 1, _, rfl, Nat.le_refl _, World.alloc_heap_new w _, by omega, by unfold maxLen; omega, rfl, ?_⟩⟩
    simp [Lib.byteCells, Plain.low, Nat.mod_eq_of_lt hd8]
  case round =>
    obtain ⟨k, hk, rfl, rfl, hown, hb, hlt⟩ := hrel
    by_cases hkm : k < m
    · obtain ⟨x, hx⟩ : ∃ x, x = n / 256 ^ k := ⟨_, rfl⟩
      have hx64 : x < 18446744073709551616 := by rw [hx]; exact Nat.lt_of_le_of_lt (Nat.div_le_self _ _) hn
      have hdiv : n / 256 ^ (k + 1) = x / 256 := by rw [hx, Nat.pow_succ, Nat.div_div_eq_div_mul]
      have hlow := low_snoc n k
      rw [← hx] at hlow ⊢
      obtain ⟨y, hy⟩ : ∃ y : Nat, y = x % 256 := ⟨_, rfl⟩
      have e1 : (x : Int) % 256 = (y : Int) := by omega
      obtain ⟨q, hq⟩ : ∃ q : Nat, q = x / 256 := ⟨_, rfl⟩
      have e2 : (x : Int) / 256 = (q : Int) := by omega
      have hy8 : y < 256 := by omega
      rw [← hy] at hlow
      rw [← hq] at hdiv
      have HX := Lib.hid hdiv
      have HL := Lib.hid hlow
      clear hx hy hq hdiv hlow
      go_wp2_with (at_builtin; refine wpList_append_own _ rfl _ _ 43 rfl w.heap.size 5 i0 (.int .u8 0) 1 1 Tryd.underlying43 hi hz0 hz1 hz2 rfl (by decide) _ _ _ rfl (hown.alloc _) ⟨wr.heap.size, 0, none⟩ 1 1 [.int .u8 (y : Int)] rfl rfl ?c1 ?c2 ?c3 ?c4 ?c5 ?_)
      case c1 =>
        intro j u hj
        cases j with
        | zero => simp at hj; subst hj; simp [go_sem, Addr.add]
        | succ j => simp at hj
      case c2 => intro u hu; simp at hu; subst hu; rfl
      case c3 => unfold maxLen; omega
      case c4 => omega
      case c5 => simp; omega
      intro v' w1 hown1 hgrow _
      have hb1 : Below w.heap.size w w1 := (hb.alloc (Nat.le_of_lt hlt) _).grown hgrow (by simp; omega) (fun k hk => (hown.lt k hk).1)
      have hsz := hgrow.size
      simp at hsz
      go_wp2
      refine ⟨⟨k + 1, by omega, by go_num, by rw [HX.out], ?_, hb1, by omega⟩, by simp [intOf]; omega⟩
      rw [← HL.out]
      simpa [Lib.byteCells, Nat.mod_eq_of_lt hy8] using hown1
    · obtain rfl : k = m := by omega
      obtain ⟨g, cap, rfl, hrow⟩ := bytes_of_owns hown (by omega)
      have hcv := rowOf_str (c := cap) hrow
      obtain ⟨L, hL⟩ : ∃ L, UInt8.ofNat hd :: Plain.low n k = L := ⟨_, rfl⟩
      rw [hL] at hcv ⊢
      obtain ⟨len, hlen⟩ : ∃ len, L.length = len := ⟨_, rfl⟩
      rw [hlen] at hcv ⊢
      have HL := Lib.hid hL
      clear hown hrow hL hlen
      go_wp2
      go_ret
      exact ⟨by rw [HL.out]; rfl, hb⟩

theorem refPut_any (n : Nat) (w : World) (hn : n < 18446744073709551616) :
    Calls Tryd.prog 51 #[.int .u64 n] w fun e w' => e = .returned (.string ⟨(Plain.enc n).toArray⟩) ∧ Below w.heap.size w w' := by
  by_cases h : n ≤ 247
  · exact refPut_small n w h
  · exact refPut_great n w hn h

theorem refGet_below (s : ByteArray) (a : Int) (w : World) (ha : a < 0) :
    Calls Tryd.prog 77 #[.string s, .int .i64 a] w fun e w' => e = .returned (.tuple #[.int .u64 0, .int .i64 a, .int .i64 3]) ∧ Below w.heap.size w w' := by
  go_enter Tryd.func77, Tryd.ntmps77
  go_wp2
  go_ret3
  exact ⟨rfl, Below.refl _ _⟩

theorem refGet_behind (s : ByteArray) (a : Int) (w : World) (ha : 0 ≤ a) (h : (s.size : Int) ≤ a) :
    Calls Tryd.prog 77 #[.string s, .int .i64 a] w fun e w' => e = .returned (.tuple #[.int .u64 0, .int .i64 a, .int .i64 3]) ∧ Below w.heap.size w w' := by
  go_enter Tryd.func77, Tryd.ntmps77
  go_wp2
  go_ret3
  exact ⟨rfl, Below.refl _ _⟩

set_option maxRecDepth 100000 in
theorem refGet_one (s : ByteArray) (k : Nat) (w : World) (hs : s.size ≤ maxLen) (hk : k < s.size) (hb : s[k].toNat ≤ 247) :
    Calls Tryd.prog 77 #[.string s, .int .i64 k] w fun e w' => e = .returned (.tuple #[.int .u64 s[k].toNat, .int .i64 (k + 1), .int .i64 0]) ∧ Below w.heap.size w w' := by
  unfold maxLen at hs
  have hb' : (s[k].toNat : Int) < 248 := by omega
  go_enter Tryd.func77, Tryd.ntmps77
  go_wp2
  go_ret3
  exact ⟨rfl, Below.refl _ _⟩

set_option maxRecDepth 100000 in
theorem refGet_short (s : ByteArray) (k m : Nat) (w : World) (_hs : s.size ≤ 9223372036854775807) (hk : k < s.size) (hb : ¬ (s[k].toNat : Int) < 248) (hm : (s[k].toNat : Int) - 247 = (m : Int)) (hm9 : m ≤ 8) (ht : s.size < k + 1 + m) :
    Calls Tryd.prog 77 #[.string s, .int .i64 k] w fun e w' => e = .returned (.tuple #[.int .u64 0, .int .i64 k, .int .i64 3]) ∧ Below w.heap.size w w' := by
  have h1 : (s.size : Int) - k - 1 < m := by omega
  go_enter Tryd.func77, Tryd.ntmps77
  go_wp2
  go_ret3
  exact ⟨rfl, Below.refl _ _⟩

theorem val_cons (b : UInt8) (r : List UInt8) : Plain.val (b :: r) = b.toNat + 256 * Plain.val r := rfl

theorem val_drop_step {l : List UInt8} {i : Nat} (h : i < l.length) : Plain.val (l.drop i) = 256 * Plain.val (l.drop (i + 1)) + (l.getD i 0).toNat := by
  rw [List.drop_eq_getElem_cons h, val_cons, getD_lt8 h]
  omega

set_option maxRecDepth 100000 in
set_option maxHeartbeats 1000000 in
theorem refGet_long (s : ByteArray) (k m : Nat) (w : World) (hs : s.size ≤ 9223372036854775807) (hk : k < s.size) (hb : ¬ (s[k].toNat : Int) < 248) (hm : (s[k].toNat : Int) - 247 = (m : Int)) (hm9 : m ≤ 8) (hkm : k + 1 + m ≤ s.size)
    (L : List UInt8) (hL : (s.data.toList.drop (k + 1)).take m = L) (v : Nat) (hv : Plain.val L = v) (hv64 : v < 18446744073709551616) (B : ByteArray) (hB : s.extract k (k + 1 + m) = B) (E : ByteArray) (hE : E = ⟨(Plain.enc v).toArray⟩) (b : Bool) (hEB : (E.toList == B.toList) = b)
    (r : Value) (hr : r = if b = true then .tuple #[.int .u64 v, .int .i64 (k + 1 + m), .int .i64 0] else .tuple #[.int .u64 0, .int .i64 k, .int .i64 5]) :
    Calls Tryd.prog 77 #[.string s, .int .i64 k] w fun e w' => e = .returned r ∧ Below w.heap.size w w' := by
  have hLl : L.length = m := by rw [← hL, List.length_take, List.length_drop, ba_length]; omega
  have hLb : ∀ i, i < m → ∀ h : k + 1 + i < s.size, L.getD i 0 = s[k + 1 + i] := fun i hi h => by
    rw [← hL, take_getD _ _ _ hi, ← byte_getD s (k + 1 + i) h]
    simp [List.getD]
  have h1 : ¬ (s.size : Int) - k - 1 < m := by omega
  have HV := Lib.hid hv; clear hv
  have HR := Lib.hid hr; clear hr
  have HE := Lib.hid hE; clear hE
  have HB := Lib.hid hB; clear hB
  have HEB := Lib.hid hEB; clear hEB
  have HL := Lib.hid hL; clear hL
  go_enter Tryd.func77, Tryd.ntmps77
  go_wp2
  go_loop [8, 9] (fun n i => ∃ j x : Nat, j ≤ m ∧ i = .int .i64 j ∧ n = .int .u64 x ∧ Plain.val (L.drop j) = x) (fun _ i => (intOf i).toNat)
  case atStart => exact ⟨m, 0, Nat.le_refl _, rfl, rfl, by rw [List.drop_of_length_le (by omega)]; rfl⟩
  case round =>
    obtain ⟨j, x, hj, rfl, rfl, hx⟩ := hrel
    by_cases hlt : 0 < j
    · have hi : k + j < s.size := by omega
      have hxb : x ≤ 72057594037927935 := by
        have h1 := Plain.val_lt (L.drop j)
        rw [hx, List.length_drop, hLl] at h1
        have h2 : 256 ^ (m - j) ≤ 256 ^ 7 := Nat.pow_le_pow_right (by omega) (by omega)
        omega
      have hstep := val_drop_step (l := L) (i := j - 1) (by omega)
      rw [show j - 1 + 1 = j by omega, hx, hLb (j - 1) (by omega) (by omega)] at hstep
      have hbyte : s[k + 1 + (j - 1)] = s[k + j] := by congr 1; omega
      rw [hbyte] at hstep
      have h256 : s[k + j].toNat < 256 := s[k + j].toNat_lt
      have HS := Lib.hid hstep
      have HX := Lib.hid hx
      clear hstep hx hbyte hLb
      go_wp2
      refine ⟨⟨j - 1, _, by omega, ?_, ?_, HS.out⟩, by simp [intOf]; omega⟩
      · congr 1; omega
      · congr 1; omega
    · obtain rfl : j = 0 := by omega
      rw [List.drop_zero, HV.out] at hx
      subst hx
      clear hLb
      have q7 := quiet_call (w := w) fun w1 _ => refPut_any v w1 hv64
      rw [← HE.out] at q7
      have i2 : (k : Int) + 1 + (m : Int) ≤ (s.size : Int) := by omega
      have i3 : (k : Int) ≤ (k : Int) + 1 + (m : Int) := by omega
      have i4 : 0 ≤ (k : Int) + 1 + (m : Int) := by omega
      have e0 : ((k : Int) + 1 + (m : Int)).toNat = k + 1 + m := by omega
      have e1 : IntKind.i64.wrap ((k : Int) + 1) = (k : Int) + 1 := IntWalk.i64_in _ (by omega)
      have e2 : IntKind.i64.wrap ((k : Int) + 1 + (m : Int)) = (k : Int) + 1 + (m : Int) := IntWalk.i64_in _ (by omega)
      have e3 := HB.out
      have e4 := HEB.out
      go_wp2
      refine wp_region_quiet_below (by kernel_rfl) (by kernel_rfl) ?_
      repeat (quiet_step (first | (go_at_call 51; with_reducible exact q7 _ _)))
      refine wpQuiet_nil ?_
      intro _ hw'
      obtain ⟨⟨dq, osq⟩, hw''⟩ := hw'
      subst hw''
      cases b
      · go_wp2
        go_ret3
        exact ⟨(congrArg Ending.returned (HR.out.trans (if_neg (by decide)))).symm, below_regrown w dq osq⟩
      · go_wp2
        go_ret3
        exact ⟨(congrArg Ending.returned (HR.out.trans (if_pos trivial))).symm, below_regrown w dq osq⟩

/-- A number stands in bytes just so if its bytes do. -/
theorem enc_stands {m : Nat} {b : UInt8} {r L : List UInt8} (hb : 247 < b.toNat) (hm : b.toNat - 247 = m) (hr : m ≤ r.length) (hL : r.take m = L) :
    (Plain.enc (Plain.val L) = b :: L) ↔ Plain.size (Plain.val L) = 1 + m := by
  have hLl : L.length = m := by rw [← hL, List.length_take]; omega
  have h256 : b.toNat < 256 := b.toNat_lt
  constructor
  · intro h
    have := congrArg List.length h
    rw [Plain.enc_length, List.length_cons, hLl] at this
    omega
  · intro h
    have hn : ¬ Plain.val L ≤ 247 := by
      intro hc; unfold Plain.size at h; rw [if_pos hc] at h; omega
    unfold Plain.size at h; rw [if_neg hn] at h
    have hnb : Plain.nb (Plain.val L) = m := by omega
    unfold Plain.enc
    rw [if_neg hn, hnb, show 247 + m = b.toNat by omega]
    have := Plain.low_val L
    rw [hLl] at this
    rw [this]
    simp

set_option maxRecDepth 100000 in
theorem refGet_any (s : ByteArray) (a : Int) (w : World) (hs : s.size ≤ maxLen) :
    Calls Tryd.prog 77 #[.string s, .int .i64 a] w fun e w' => e = .returned (gotten (Plain.get s.data.toList a)) ∧ Below w.heap.size w w' := by
  have hs' : s.size ≤ 9223372036854775807 := hs
  have hL : s.data.toList.length = s.size := ba_length s
  unfold gotten Plain.get
  rw [hL]
  by_cases h : a < 0 ∨ (s.size : Int) ≤ a
  · rw [if_pos h]
    by_cases ha : a < 0
    · exact refGet_below s a w ha
    · exact refGet_behind s a w (by omega) (by omega)
  · rw [if_neg h]
    obtain ⟨k, rfl⟩ : ∃ k : Nat, a = (k : Int) := ⟨a.toNat, by omega⟩
    have hk : k < s.size := by omega
    have h256 : s[k].toNat < 256 := s[k].toNat_lt
    have hd : s.data.toList.drop k = s[k] :: s.data.toList.drop (k + 1) := by
      rw [List.drop_eq_getElem_cons (by rw [hL]; exact hk)]; rfl
    rw [Int.toNat_natCast, hd]
    have hdl : (s.data.toList.drop (k + 1)).length = s.size - (k + 1) := by rw [List.length_drop, hL]
    rw [getL_cons]
    by_cases hb : s[k].toNat ≤ 247
    · rw [if_pos hb]
      exact refGet_one s k w hs hk hb
    · rw [if_neg hb]
      rw [hdl]
      obtain ⟨m, hme⟩ : ∃ m, s[k].toNat - 247 = m := ⟨_, rfl⟩
      rw [hme]
      have hmi : (s[k].toNat : Int) - 247 = (m : Int) := by omega
      have hm8 : m ≤ 8 := by omega
      have hbi : ¬ (s[k].toNat : Int) < 248 := by omega
      by_cases hm : s.size - (k + 1) < m
      · rw [if_pos hm]
        refine (refGet_short s k m w hs' hk hbi hmi hm8 (by omega)).mono ?_
        rintro e w' ⟨rfl, hw⟩
        exact ⟨by simp, hw⟩
      · rw [if_neg hm]
        have hst := enc_stands (b := s[k]) (r := s.data.toList.drop (k + 1)) (Nat.lt_of_not_le hb) hme (by rw [hdl]; exact Nat.le_of_not_lt hm) rfl
        have hll : ((s.data.toList.drop (k + 1)).take m).length = m := by rw [List.length_take]; omega
        obtain ⟨L, hLe⟩ : ∃ L, (s.data.toList.drop (k + 1)).take m = L := ⟨_, rfl⟩
        rw [hLe] at hst hll ⊢
        have hvl : Plain.val L < 18446744073709551616 := Plain.val_lt64 (by omega)
        have hBl : (s.extract k (k + 1 + m)).data.toList = s[k] :: L := by
          rw [ba_extract, hd, show k + 1 + m - k = m + 1 by omega, List.take_succ_cons, hLe]
        refine (refGet_long s k m w hs' hk hbi hmi hm8 (by omega) L hLe (Plain.val L) rfl hvl (s.extract k (k + 1 + m)) rfl _ rfl (decide (Plain.size (Plain.val L) = 1 + m)) ?_ _ rfl).mono ?_
        · rw [toList_beq]
          congr 1
          rw [← hst, eq_iff_iff]
          constructor
          · intro he
            rw [← hBl, ← he]
          · intro he
            apply ba_ext
            rw [hBl, ← he]
        · rintro e w' ⟨rfl, hw⟩
          refine ⟨?_, hw⟩
          by_cases hz : Plain.size (Plain.val L) = 1 + m
          · simp [hz]; omega
          · simp [hz]
end Go.Proofs.YtjiilmiikejnhaaDoor

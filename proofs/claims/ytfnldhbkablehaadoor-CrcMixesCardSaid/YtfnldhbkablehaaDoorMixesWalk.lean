/-
  The walk of CrcMixes: it returns true, for every three texts.
-/
import Derived.Test.YtfnldhbkablehaaDoorProg
import Derived.Test.YtfnldhbkablehaaDoorMath
import Derived.WalkKit
import Derived.WalkSpells
import Derived.WalkLawsBesides
import Derived.Lib.Hide
import Derived.Shelf.Pu.Clone
import Derived.Deep.QuietTactic
import Derived.BigQuiet
import Derived.Lib.QuietBelow
import Derived.Test.YtfnldhbkablehaaDoorWalks1
import Derived.Lib.ConvBytes
import Derived.Test.YtfnldhbkablehaaDoorBurstsWalk
import Derived.Test.YtfnldhbkablehaaDoorFourWalk
namespace Go.Proofs.YtfnldhbkablehaaDoor
open Go.RowKit

/-- Of three rows, byte by byte, as far as k; zeros behind. -/
def mixTo (n : Nat) (a b c : List UInt8) : Nat → List UInt8
  | 0 => List.replicate n 0
  | k + 1 => (mixTo n a b c k).set k (UInt8.ofNat ((a.getD k 0).toNat ^^^ (b.getD k 0).toNat ^^^ (c.getD k 0).toNat))
theorem mixTo_length (n : Nat) (a b c : List UInt8) : ∀ k, (mixTo n a b c k).length = n
  | 0 => by simp [mixTo]
  | k + 1 => by rw [mixTo, List.length_set, mixTo_length n a b c k]
theorem mixTo_get (n : Nat) (a b c : List UInt8) : ∀ (k i : Nat), i < k → k ≤ n → ((mixTo n a b c k).getD i 0).toNat = (a.getD i 0).toNat ^^^ (b.getD i 0).toNat ^^^ (c.getD i 0).toNat
  | 0, _, h, _ => by omega
  | k + 1, i, h, hk => by
    have hl := mixTo_length n a b c k
    have hx : (a.getD k 0).toNat ^^^ (b.getD k 0).toNat ^^^ (c.getD k 0).toNat < 256 := Plain.xor_lt8 (Plain.xor_lt8 (UInt8.toNat_lt _) (UInt8.toNat_lt _)) (UInt8.toNat_lt _)
    rw [mixTo, getD_lt8 (l := (mixTo n a b c k).set k _) (by rw [List.length_set, hl]; omega)]
    by_cases e : k = i
    · subst e
      rw [List.getElem_set_self, Plain.u8_of hx]
    · rw [List.getElem_set_ne e, ← getD_lt8]
      exact mixTo_get n a b c k i (by omega) (by omega)
theorem num_mix : ∀ (x a b c : List UInt8), a.length = x.length → b.length = x.length → c.length = x.length → (∀ i, i < x.length → (x.getD i 0).toNat = (a.getD i 0).toNat ^^^ (b.getD i 0).toNat ^^^ (c.getD i 0).toNat) → Plain.num x = Plain.num a ^^^ Plain.num b ^^^ Plain.num c
  | [], [], [], [], _, _, _, _ => rfl
  | x :: xs, a :: la, b :: bs, c :: cs, h1, h2, h3, h => by
    have h0 := h 0 (by simp)
    simp only [List.getD_cons_zero] at h0
    have ih := num_mix xs la bs cs (by simpa using h1) (by simpa using h2) (by simpa using h3) (fun i hi => by
      have := h (i + 1) (by simpa using hi)
      simpa only [List.getD_cons_succ] using this)
    simp only [Plain.num]
    rw [Plain.join256 x.toNat_lt, Plain.join256 a.toNat_lt, Plain.join256 b.toNat_lt, Plain.join256 c.toNat_lt, ih, h0]
    rw [show (256 : Nat) = 2 ^ 8 by decide, Plain.mul_xor, Plain.mul_xor]
    generalize 2 ^ 8 * Plain.num la = A
    generalize 2 ^ 8 * Plain.num bs = B
    generalize 2 ^ 8 * Plain.num cs = C
    rw [Plain.xor_mid (a.toNat) A, Plain.xor_mid (a.toNat ^^^ b.toNat) (A ^^^ B)]
  | [], _ :: _, _, _, h, _, _, _ => by simp at h
  | [], [], _ :: _, _, _, h, _, _ => by simp at h
  | [], [], [], _ :: _, _, _, h, _ => by simp at h
  | _ :: _, [], _, _, h, _, _, _ => by simp at h
  | _ :: _, _ :: _, [], _, _, h, _, _ => by simp at h
  | _ :: _, _ :: _, _ :: _, [], _, _, h, _ => by simp at h

theorem sum_eq (l : List UInt8) : Plain.sum l = Plain.turned (Plain.run 4294967295 l) := by
  unfold Plain.sum Plain.more
  rw [Plain.turned_eq 0, Nat.xor_zero]
/-- Sums go bit by bit. -/
theorem sum_mix {x a b c : List UInt8} (h1 : a.length = x.length) (h2 : b.length = x.length) (h3 : c.length = x.length) (h : Plain.num x = Plain.num a ^^^ Plain.num b ^^^ Plain.num c) : Plain.sum x = Plain.sum a ^^^ Plain.sum b ^^^ Plain.sum c := by
  have e : Plain.run 4294967295 x = Plain.run 4294967295 a ^^^ Plain.run 4294967295 b ^^^ Plain.run 4294967295 c := by
    rw [Plain.run_feed, Plain.run_feed, Plain.run_feed, Plain.run_feed, h1, h2, h3, h, ← Plain.feed_xor, ← Plain.feed_xor, Nat.xor_self, Nat.zero_xor]
  rw [sum_eq, sum_eq, sum_eq, sum_eq, e]
  simp only [Plain.turned_eq]
  generalize Plain.run 4294967295 a = A
  generalize Plain.run 4294967295 b = B
  generalize Plain.run 4294967295 c = C
  rw [Plain.xor_mid 4294967295 A, Nat.xor_self, Nat.zero_xor, Plain.xor_swap]
/-- What one turned bit does to the sum hangs on how many bytes are behind it alone. -/
theorem sum_turn (a b : List UInt8) (pl p k : Nat) (h : a.length = b.length) : Plain.sum (Plain.turnTo a pl p k) ^^^ Plain.sum a = Plain.sum (Plain.turnTo b pl p k) ^^^ Plain.sum b := by
  have key : ∀ l : List UInt8, Plain.sum (Plain.turnTo l pl p k) ^^^ Plain.sum l = Plain.feed (8 * l.length) 0 (Plain.mask l.length pl p k) := fun l => by
    have e := Plain.feed_xor (8 * l.length) 4294967295 0 (Plain.num l) (Plain.mask l.length pl p k)
    rw [Nat.xor_zero, ← Plain.num_turnTo, ← Plain.run_feed, ← Plain.turnTo_length l pl p k, ← Plain.run_feed, Plain.turnTo_length] at e
    rw [sum_eq, sum_eq, e]
    simp only [Plain.turned_eq]
    rw [Plain.xor_mid, Nat.xor_self, Nat.zero_xor, Nat.xor_comm, ← Nat.xor_assoc, Nat.xor_self, Nat.zero_xor]
  rw [key, key, h]

theorem i5 : (Tryd.prog.info? 5).map (fun i => (i.zero, i.size, i.bytes)) = some (some (.int .u8 0), 1, 1) := by kernel_rfl

theorem rowOf_made (w : World) (n : Nat) : RowOf (w.alloc (.cells (madeCells #[.int .u8 0] n) 5)) w.heap.size (List.replicate n 0) := by
  constructor
  · intro i hi
    have hi' : i < n := by simpa using hi
    rw [World.cell?_alloc_at (hn := rfl)]
    have h : (madeCells #[Value.int .u8 0] n)[i]? = (List.replicate n (Value.int .u8 0))[i]? := by rw [← toList_madeCells_one]; simp
    rw [h]
    simp [List.getD, hi']
  · intro i _
    exact World.frozen?_alloc_at (w := w) (hn := rfl) ..
theorem rowOf_set {w : World} {b : Nat} {l : List UInt8} (h : RowOf w b l) (i : Nat) (hi : i < l.length) (y : UInt8) :
    RowOf ((w.setCell ⟨b, i, none⟩ (.int .u8 (y.toNat : Int))).drew) b (l.set i y) := by
  constructor
  · intro j hj
    rw [List.length_set] at hj
    show ((w.setCell ⟨b, i, none⟩ (.int .u8 (y.toNat : Int)))).cell? _ = _
    rw [getD_lt8 (l := l.set i y) (by simpa using hj)]
    by_cases e : i = j
    · subst e
      rw [World.cell?_setCell_same (h := h.1 _ hi), List.getElem_set_self]
    · rw [World.cell?_setCell_other (h := fun h => e (by injection h)), h.1 j hj, getD_lt8 hj, List.getElem_set_ne e]
  · intro j hj
    rw [List.length_set] at hj
    show ((w.setCell ⟨b, i, none⟩ (.int .u8 (y.toNat : Int)))).frozen? _ = _
    rw [World.frozen?_setCell, h.2 j hj]
theorem rowOf_below {w w' : World} {b : Nat} {l : List UInt8} (h : RowOf w b l) (hb : Below w.heap.size w w') : RowOf w' b l := by
  constructor
  · intro i hi
    rw [hb.cell (p := ⟨b, i, none⟩) (block_lt_of_cell (h.1 i hi))]
    exact h.1 i hi
  · intro i hi
    rw [hb.frozen (p := ⟨b, i, none⟩) (block_lt_of_cell (h.1 i hi))]
    exact h.2 i hi

/-- The first loop. -/
def MixRel (s r t : ByteArray) (n : Nat) (w : World) (b : Nat) (k : Value) (wr : World) : Prop := ∃ j : Nat, j ≤ n ∧ k = .int .i64 j ∧ RowOf wr b (mixTo n s.data.toList r.data.toList t.data.toList j) ∧ Below w.heap.size w wr

theorem byte_getD (s : ByteArray) (k : Nat) (h : k < s.size) : s.data.toList.getD k 0 = s[k] := by
  rw [getD_lt8 (by simpa using h)]
  rfl

/-- What a round of the second loop leans on. -/
def MixStep (s U V : ByteArray) (NU NV j : Nat) (w : World) : Prop := ∃ (O1 O2 : ByteArray) (A1 A2 E : Nat), j < O1.size ∧ bits .xor .u32 (A1 : Int) (NU : Int) = (E : Int) ∧ bits .xor .u32 (A2 : Int) (NV : Int) = (E : Int) ∧
  (∀ (h1 : j < O1.size) (h2 : j < s.size), ((O1[j].toNat : Int) == (s[j].toNat : Int)) = false) ∧
  (∀ w0, Below w.heap.size w w0 → Calls Tryd.prog 16 #[.string U, .int .i64 ((8 * j + j % 8 : Nat) : Int), .int .u32 1] w0 fun e w' => e = .returned (.string O1) ∧ Below w0.heap.size w0 w') ∧
  (∀ w0, Below w.heap.size w w0 → Calls Tryd.prog 16 #[.string V, .int .i64 ((8 * j + j % 8 : Nat) : Int), .int .u32 1] w0 fun e w' => e = .returned (.string O2) ∧ Below w0.heap.size w0 w') ∧
  (∀ w0, Below w.heap.size w w0 → Calls Tryd.prog 11 #[.string O1] w0 fun e w' => e = .returned (.int .u32 (A1 : Int)) ∧ Below w0.heap.size w0 w') ∧
  (∀ w0, Below w.heap.size w w0 → Calls Tryd.prog 11 #[.string O2] w0 fun e w' => e = .returned (.int .u32 (A2 : Int)) ∧ Below w0.heap.size w0 w')

set_option maxHeartbeats 8000000 in
theorem mixes_walk (s r t : ByteArray) (n : Nat) (w : World) (hf : Fours w)
    (hmin : min (s.size : Int) (min (r.size : Int) (min (t.size : Int) 200)) = (n : Int)) (hn1 : n ≤ s.size) (hn2 : n ≤ r.size) (hn3 : n ≤ t.size) (hn4 : n ≤ 200)
    (U V T X : ByteArray) (NU NV NT NX Z1 : Nat) (hU : s.extract 0 n = U) (hV : r.extract 0 n = V) (hT : t.extract 0 n = T) (hX : (⟨(mixTo n s.data.toList r.data.toList t.data.toList n).toArray⟩ : ByteArray) = X)
    (hZ1 : bits .xor .u32 (NU : Int) (NV : Int) = (Z1 : Int)) (hZ2 : bits .xor .u32 (Z1 : Int) (NT : Int) = (NX : Int))
    (cX : ∀ w0, Below w.heap.size w w0 → Calls Tryd.prog 11 #[.string X] w0 fun e w' => e = .returned (.int .u32 (NX : Int)) ∧ Below w0.heap.size w0 w')
    (cU : ∀ w0, Below w.heap.size w w0 → Calls Tryd.prog 11 #[.string U] w0 fun e w' => e = .returned (.int .u32 (NU : Int)) ∧ Below w0.heap.size w0 w')
    (cV : ∀ w0, Below w.heap.size w w0 → Calls Tryd.prog 11 #[.string V] w0 fun e w' => e = .returned (.int .u32 (NV : Int)) ∧ Below w0.heap.size w0 w')
    (cT : ∀ w0, Below w.heap.size w w0 → Calls Tryd.prog 11 #[.string T] w0 fun e w' => e = .returned (.int .u32 (NT : Int)) ∧ Below w0.heap.size w0 w')
    (hstep : ∀ j, j < n → MixStep s U V NU NV j w) :
    Calls Tryd.prog 5 #[.string s, .string r, .string t] w fun e w' => e = .returned (.bool true) ∧ Below w.heap.size w w' := by
  obtain ⟨i0, hi, hz0, hz1, hz2⟩ := info_parts i5
  obtain ⟨M, hM⟩ : ∃ M, M = madeCells #[Value.int .u8 0] n := ⟨_, rfl⟩
  have hmk : ∀ W : World, (Instr.makeSlice 33 (.int .i64 (n : Int)) (.int .i64 (n : Int))).run Tryd.prog W = .ok (.slice (some ⟨W.heap.size, 0, none⟩) n n) (W.alloc (.cells M 5)) := fun W => by
    have h := run_make (P := Tryd.prog) W 33 5 i0 (.int .u8 0) Tryd.underlying33 hi hz0 .i64 .i64 (n : Int) (n : Int) (by omega) (by omega) (by rw [hz2]; omega) (by omega)
    rw [hz1] at h
    rw [hM]
    simpa [Value.cells] using h
  have hrow0 : ∀ W : World, RowOf (W.alloc (.cells M 5)) W.heap.size (List.replicate n 0) := fun W => by rw [hM]; exact rowOf_made W n
  have HR := Lib.hid hrow0
  have HS := Lib.hid hstep
  clear hstep
  clear hM hrow0 hi hz0 hz1 hz2
  go_enter Tryd.func5, Tryd.ntmps5
  go_wp2_with (go_at_call 15; with_reducible refine (works_any _ hf).mono ?_; rintro e w1 ⟨rfl, hb1⟩)
  clear hmk
  obtain ⟨b, hb⟩ : ∃ b, w1.heap.size = b := ⟨_, rfl⟩
  have hr0 := HR.out w1
  have hbl : w.heap.size ≤ b := by rw [← hb]; exact hb1.size
  have hb2 : Below w.heap.size w (w1.alloc (.cells M 5)) := hb1.alloc hb1.size _
  rw [hb] at hr0
  rw [hb]
  clear HR hb hb1
  go_loopw [9] (fun k wr => MixRel s r t n w b k wr) (fun i _ => n - (intOf i).toNat)
  case atStart => exact ⟨0, by omega, rfl, hr0, hb2⟩
  case round =>
    obtain ⟨j, hj, rfl, hrow, hbw⟩ := hrel
    have hlen := mixTo_length n s.data.toList r.data.toList t.data.toList j
    have HL := Lib.hid hlen; clear hlen
    clear hr0 hb2
    by_cases hlt : j < n
    · have hcell := hrow.1 j (by rw [HL.out]; exact hlt)
      have hfr := hrow.2 j (by rw [HL.out]; exact hlt)
      have hj1 : j < s.size := by omega
      have hj2 : j < r.size := by omega
      have hj3 : j < t.size := by omega
      obtain ⟨y, hy⟩ : ∃ y : UInt8, y = UInt8.ofNat ((s.data.toList.getD j 0).toNat ^^^ (r.data.toList.getD j 0).toNat ^^^ (t.data.toList.getD j 0).toNat) := ⟨_, rfl⟩
      have hyn : y.toNat = s[j].toNat ^^^ r[j].toNat ^^^ t[j].toNat := by
        rw [hy, byte_getD s j hj1, byte_getD r j hj2, byte_getD t j hj3, Plain.u8_of (Plain.xor_lt8 (Plain.xor_lt8 (UInt8.toNat_lt _) (UInt8.toNat_lt _)) (UInt8.toNat_lt _))]
      obtain ⟨z, hz⟩ : ∃ z : Nat, z = s[j].toNat ^^^ r[j].toNat := ⟨_, rfl⟩
      have hz2 : z < 256 := by rw [hz]; exact Plain.xor_lt8 (UInt8.toNat_lt _) (UInt8.toNat_lt _)
      have hx1 : bits .xor .u8 (s[j].toNat : Int) (r[j].toNat : Int) = (z : Int) := by rw [hz]; exact u8_xor_nat _ _ (UInt8.toNat_lt _) (UInt8.toNat_lt _)
      have hx2 : bits .xor .u8 (z : Int) (t[j].toNat : Int) = (y.toNat : Int) := by rw [hyn, ← hz]; exact u8_xor_nat _ _ hz2 (UInt8.toNat_lt _)
      have HY := Lib.hid hy
      clear hy hyn hz hz2
      go_wp2_with fail
      go_region
      go_wp2_with fail
      go_roundw
      case rel => exact ⟨j + 1, by omega, by go_num, by rw [mixTo, ← HY.out]; exact rowOf_set hrow j (by rw [HL.out]; exact hlt) y, (hbw.setCell hbl _).drew⟩
      case measure => simp [intOf]; omega
    · obtain rfl : n = j := by omega
      have hcv : ∀ d os, (convert 33 9 (.slice (some ⟨b, 0, none⟩) n n)).run Tryd.prog (Sort.grow (redrawn wr d) os) = .ok (.string X) (Sort.grow (redrawn wr d) os) := fun d os => by
        have h := rowOf_str (c := n) (rowOf_below hrow (below_regrown wr d os))
        rw [HL.out, hX] at h
        exact h
      have qX := quiet_call (w := wr) fun w0 h => cX w0 (Below.next hbw h)
      have qU := quiet_call (w := wr) fun w0 h => cU w0 (Below.next hbw h)
      have qV := quiet_call (w := wr) fun w0 h => cV w0 (Below.next hbw h)
      have qT := quiet_call (w := wr) fun w0 h => cT w0 (Below.next hbw h)
      clear cX cT hX
      go_wp2_with fail
      refine wp_region_quiet_below (by kernel_rfl) (by kernel_rfl) ?_
      repeat (quiet_step (first | (go_at_call 11; (first | with_reducible exact qX _ _ | with_reducible exact qU _ _ | with_reducible exact qV _ _ | with_reducible exact qT _ _))))
      refine wpQuiet_nil ?_
      intro _ hw'
      obtain ⟨⟨dq, osq⟩, hw''⟩ := hw'
      subst hw''
      clear qX qU qV qT hcv
      go_wp2_with fail
      obtain ⟨wy, hwy⟩ : ∃ wy, Sort.grow (redrawn wr dq) osq = wy := ⟨_, rfl⟩
      have hby : Below w.heap.size w wy := by rw [← hwy]; exact Below.next hbw (below_regrown _ _ _)
      rw [hwy]
      clear hwy hbw hrow
      go_loopw [10] (fun k wr => ∃ j : Nat, j ≤ n ∧ k = .int .i64 j ∧ Below w.heap.size w wr) (fun i _ => n - (intOf i).toNat)
      case atStart => exact ⟨0, by omega, rfl, hby⟩
      case round =>
        obtain ⟨j, hj, rfl, hbz⟩ := hrel
        clear hby
        by_cases hlt : j < n
        · obtain ⟨O1, O2, A1, A2, E, ho, hE1, hE2, hne, c16u, c16v, c11a, c11b⟩ := HS.out j hlt
          have hjs : j < s.size := by omega
          have hne1 := hne ho hjs
          obtain ⟨pl, hpl⟩ : ∃ pl : Nat, 8 * j + j % 8 = pl := ⟨_, rfl⟩
          obtain ⟨j8, hj8⟩ : ∃ j8 : Nat, 8 * j = j8 := ⟨_, rfl⟩
          obtain ⟨jm, hjm⟩ : ∃ jm : Nat, j % 8 = jm := ⟨_, rfl⟩
          have r1 : IntKind.i64.wrap (8 * (j : Int)) = (j8 : Int) := by rw [IntWalk.i64_in _ (by omega)]; omega
          have r2 : ((j : Int)).tmod 8 = (jm : Int) := by rw [Int.tmod_eq_emod_of_nonneg (by omega)]; omega
          have r3 : IntKind.i64.wrap ((j8 : Int) + (jm : Int)) = (pl : Int) := by rw [IntWalk.i64_in _ (by omega)]; omega
          rw [hpl] at c16u c16v
          clear hpl hj8 hjm hne
          have q16u := quiet_call (w := wr) fun w0 h => c16u w0 (Below.next hbz h)
          have q16v := quiet_call (w := wr) fun w0 h => c16v w0 (Below.next hbz h)
          go_wp2_with fail
          refine wp_region_quiet_below (by kernel_rfl) (by kernel_rfl) ?_
          repeat (quiet_step (first | (go_at_call 16; (first | with_reducible exact q16u _ _ | with_reducible exact q16v _ _))))
          refine wpQuiet_nil ?_
          intro _ hw'
          obtain ⟨⟨dq2, osq2⟩, hw''⟩ := hw'
          subst hw''
          clear q16u q16v r1 r2 r3 c16u c16v
          go_wp2_with fail
          obtain ⟨wv, hwv⟩ : ∃ wv, Sort.grow (redrawn wr dq2) osq2 = wv := ⟨_, rfl⟩
          have hbv : Below w.heap.size w wv := by rw [← hwv]; exact Below.next hbz (below_regrown _ _ _)
          rw [hwv]
          clear hwv hbz
          have qa := quiet_call (w := wv) fun w0 h => c11a w0 (Below.next hbv h)
          have qb := quiet_call (w := wv) fun w0 h => c11b w0 (Below.next hbv h)
          have qU := quiet_call (w := wv) fun w0 h => cU w0 (Below.next hbv h)
          have qV := quiet_call (w := wv) fun w0 h => cV w0 (Below.next hbv h)
          refine wp_region_quiet_below (by kernel_rfl) (by kernel_rfl) ?_
          repeat (quiet_step (first | (go_at_call 11; (first | with_reducible exact qa _ _ | with_reducible exact qb _ _ | with_reducible exact qU _ _ | with_reducible exact qV _ _))))
          refine wpQuiet_nil ?_
          intro _ hw'
          obtain ⟨⟨dq3, osq3⟩, hw''⟩ := hw'
          subst hw''
          clear qa qb qU qV c11a c11b
          go_wp2_with fail
          go_roundw
          case rel => exact ⟨j + 1, by omega, by go_num, Below.next hbv (below_regrown _ _ _)⟩
          case measure => simp [intOf]; omega
        · go_wp2_with fail
          go_ret
          exact ⟨rfl, hbz⟩

theorem take_getD (l : List UInt8) (n i : Nat) (h : i < n) : (l.take n).getD i 0 = l.getD i 0 := by
  simp [List.getD, h]
theorem turn_once (l : List UInt8) (pl : Nat) (h : pl < 8 * l.length) : ∀ k, Plain.turnTo l pl 1 (k + 1) = Plain.flip l pl
  | 0 => by
    unfold Plain.turnTo
    rw [if_pos (by simpa using h)]
    rfl
  | k + 1 => by
    have h2 : 1 / 2 ^ (k + 1) = 0 := Nat.div_eq_of_lt (by rw [Nat.pow_succ]; have := Nat.two_pow_pos k; omega)
    rw [Plain.turnTo, if_neg (by rw [h2]; omega)]
    exact turn_once l pl h k
theorem flip_byte (l : List UInt8) (pl : Nat) (h : pl < 8 * l.length) : ((Plain.flip l pl).getD (pl / 8) 0).toNat ≠ (l.getD (pl / 8) 0).toNat := by
  have hi : pl / 8 < l.length := by omega
  have h2 : 2 ^ (pl % 8) < 256 := Plain.pow_lt8 _ (by omega)
  have hx : (l.getD (pl / 8) 0).toNat ^^^ 2 ^ (pl % 8) < 256 := Plain.xor_lt8 (UInt8.toNat_lt _) h2
  unfold Plain.flip
  rw [getD_lt8 (l := l.set (pl / 8) _) (by simpa using hi), List.getElem_set_self, Plain.u8_of hx]
  intro e
  have e2 := congrArg ((l.getD (pl / 8) 0).toNat ^^^ ·) e
  simp only [Plain.xor_back, Nat.xor_self] at e2
  have := Nat.two_pow_pos (pl % 8)
  omega

theorem mix_step (s U V : ByteArray) (n j : Nat) (w : World) (hf : Fours w) (hj : j < n) (hn : n ≤ 200) (hU : s.extract 0 n = U) (hUs : U.size = n) (hVs : V.size = n) :
    MixStep s U V (Plain.sum U.data.toList) (Plain.sum V.data.toList) j w := by
  have hpl : 8 * j + j % 8 < 8 * U.size := by omega
  have hq : (8 * j + j % 8) / 8 = j := by omega
  have e := sum_turn U.data.toList V.data.toList (8 * j + j % 8) 1 32 (by rw [ba_length, ba_length, hUs, hVs])
  have b1 : ∀ l : List UInt8, Plain.sum l < 4294967296 := Plain.sum_lt
  refine ⟨turned U (8 * j + j % 8) 1, turned V (8 * j + j % 8) 1, Plain.sum (turned U (8 * j + j % 8) 1).data.toList, Plain.sum (turned V (8 * j + j % 8) 1).data.toList, Plain.sum (turned U (8 * j + j % 8) 1).data.toList ^^^ Plain.sum U.data.toList, ?_, u32_xor_nat _ _ (b1 _) (b1 _), ?_, ?_, ?_, ?_, ?_, ?_⟩
  · rw [turned_size, hUs]
    exact hj
  · rw [u32_xor_nat _ _ (b1 _) (b1 _)]
    congr 1
    exact e.symm
  · intro h1 h2
    have g1 : (turned U (8 * j + j % 8) 1)[j] = (Plain.flip U.data.toList (8 * j + j % 8)).getD j 0 := by
      rw [← byte_getD _ j h1]
      show (Plain.turnTo U.data.toList (8 * j + j % 8) 1 32).getD j 0 = _
      rw [turn_once _ _ (by rw [ba_length]; exact hpl)]
    have g2 : s[j] = U.data.toList.getD j 0 := by
      rw [← byte_getD s j h2, ← hU, ba_extract, List.drop_zero, Nat.sub_zero, take_getD _ _ _ hj]
    have g3 := flip_byte U.data.toList (8 * j + j % 8) (by rw [ba_length]; exact hpl)
    rw [hq] at g3
    rw [g1, g2]
    simp only [beq_eq_false_iff_ne, ne_eq]
    omega
  · intro w0 _
    exact turn_walk U (8 * j + j % 8) 1 w0 (by omega) (by omega) (by omega)
  · intro w0 _
    exact turn_walk V (8 * j + j % 8) 1 w0 (by omega) (by omega) (by omega)
  · intro w0 hb
    exact sum_any _ w0 (hf.below hb) (by rw [turned_size]; unfold maxLen; omega)
  · intro w0 hb
    exact sum_any _ w0 (hf.below hb) (by rw [turned_size]; unfold maxLen; omega)

theorem mixes_any (s r t : ByteArray) (w : World) (hf : Fours w) :
    Calls Tryd.prog 5 #[.string s, .string r, .string t] w fun e w' => e = .returned (.bool true) ∧ Below w.heap.size w w' := by
  obtain ⟨n, hn⟩ : ∃ n, n = min s.size (min r.size (min t.size 200)) := ⟨_, rfl⟩
  have hU : (s.extract 0 n).size = n := by rw [ByteArray.size_extract]; omega
  have hV : (r.extract 0 n).size = n := by rw [ByteArray.size_extract]; omega
  have hT : (t.extract 0 n).size = n := by rw [ByteArray.size_extract]; omega
  have b1 : ∀ l : List UInt8, Plain.sum l < 4294967296 := Plain.sum_lt
  have big : ∀ x : ByteArray, x.size ≤ 500 → x.size ≤ maxLen := fun x h => by unfold maxLen; omega
  have hxl : (⟨(mixTo n s.data.toList r.data.toList t.data.toList n).toArray⟩ : ByteArray).size = n := by
    rw [← ba_length]
    exact mixTo_length n _ _ _ n
  have hmix : Plain.sum (mixTo n s.data.toList r.data.toList t.data.toList n) = Plain.sum (s.extract 0 n).data.toList ^^^ Plain.sum (r.extract 0 n).data.toList ^^^ Plain.sum (t.extract 0 n).data.toList := by
    have l1 : (s.extract 0 n).data.toList.length = (mixTo n s.data.toList r.data.toList t.data.toList n).length := by rw [ba_length, hU, mixTo_length]
    have l2 : (r.extract 0 n).data.toList.length = (mixTo n s.data.toList r.data.toList t.data.toList n).length := by rw [ba_length, hV, mixTo_length]
    have l3 : (t.extract 0 n).data.toList.length = (mixTo n s.data.toList r.data.toList t.data.toList n).length := by rw [ba_length, hT, mixTo_length]
    apply sum_mix l1 l2 l3
    apply num_mix _ _ _ _ l1 l2 l3
    intro i hi
    rw [mixTo_length] at hi
    rw [mixTo_get n _ _ _ n i hi (Nat.le_refl _), ba_extract, ba_extract, ba_extract]
    simp only [List.drop_zero, Nat.sub_zero]
    rw [take_getD _ _ _ hi, take_getD _ _ _ hi, take_getD _ _ _ hi]
  exact mixes_walk s r t n w hf (by omega) (by omega) (by omega) (by omega) (by omega) (s.extract 0 n) (r.extract 0 n) (t.extract 0 n) ⟨(mixTo n s.data.toList r.data.toList t.data.toList n).toArray⟩
    (Plain.sum (s.extract 0 n).data.toList) (Plain.sum (r.extract 0 n).data.toList) (Plain.sum (t.extract 0 n).data.toList) (Plain.sum (mixTo n s.data.toList r.data.toList t.data.toList n)) (Plain.sum (s.extract 0 n).data.toList ^^^ Plain.sum (r.extract 0 n).data.toList) rfl rfl rfl rfl
    (u32_xor_nat _ _ (b1 _) (b1 _)) (by rw [hmix]; exact u32_xor_nat _ _ (Plain.xor_lt (b1 _) (b1 _)) (b1 _))
    (fun w0 hb => sum_any _ w0 (hf.below hb) (big _ (by omega)))
    (fun w0 hb => sum_any _ w0 (hf.below hb) (big _ (by omega)))
    (fun w0 hb => sum_any _ w0 (hf.below hb) (big _ (by omega)))
    (fun w0 hb => sum_any _ w0 (hf.below hb) (big _ (by omega)))
    (fun j hj => mix_step s _ _ n j w hf hj (by omega) rfl hU hV)

end Go.Proofs.YtfnldhbkablehaaDoor

/-
  bytes.Repeat of one byte. dist.last; slices.Reverse of bytes.
-/
import Derived.Test.YtbdbcfidbapioaaG08
import Derived.Test.YtbdbcfidbapioaaG09
import Derived.Lib.MakeNoZero
import Derived.Laws.Externs
import Derived.Laws.CopyOwn
import Derived.Deep.RegionLaw
set_option linter.unusedVariables false
set_option linter.unusedSimpArgs false
namespace Go.Proofs.Ytbdbcfidbapioaa
open Go.RowKit Go.Shelf

/-- A row of bytes that is read; its block holds bytes. -/
def BRow (w : World) (base : Nat) (v : Value) (l : List UInt8) : Prop :=
  ∃ (g c : Nat) (cur : Array Value), v = .slice (some ⟨g, 0, none⟩) l.length c ∧ base ≤ g ∧ w.heap[g]? = some (.cells cur 5 (0, 0)) ∧ ∀ i, i < l.length → cur[i]? = some (.int .u8 ((l.getD i 0).toNat : Int))
theorem BRow.same {w w' : World} {base : Nat} {v : Value} {l : List UInt8} (h : BRow w base v l) (hb : ∀ g o, v.ownBlock = some g → w.heap[g]? = some o → w'.heap[g]? = some o) : BRow w' base v l := by
  obtain ⟨g, c, cur, rfl, hg, hh, hc⟩ := h
  exact ⟨g, c, cur, rfl, hg, hb g _ rfl hh, hc⟩
theorem BRow.below {w w' : World} {base : Nat} {v : Value} {l : List UInt8} (h : BRow w base v l) (hb : Below w.heap.size w w') : BRow w' base v l :=
  h.same fun g o _ hh => (hb.block g (Array.getElem?_eq_some_iff.1 hh).1).trans hh
theorem iByte : (Try.prog.info? 5).map (·.size) = some 1 := by kernel_rfl

/-- The first cells of a block are this byte. -/
def Filled (cur : List Value) (k : Nat) (x : UInt8) : Prop := ∀ i, i < k → cur[i]? = some (.int .u8 (x.toNat : Int))
theorem filled_splice {cur : List Value} {k m : Nat} {x : UInt8} (h : Filled cur k x) (hk : k + m ≤ cur.length) : Filled (splice cur k (List.replicate m (.int .u8 (x.toNat : Int)))) (k + m) x := by
  intro i hi
  unfold splice
  by_cases h1 : i < k
  · rw [List.getElem?_append_left (by rw [List.length_take]; omega), List.getElem?_take, if_pos h1]
    exact h i h1
  · rw [List.getElem?_append_right (by rw [List.length_take]; omega), List.length_take, Nat.min_eq_left (by omega), List.getElem?_append_left (by simp; omega)]
    rw [List.getElem?_replicate, if_pos (by omega)]

set_option maxHeartbeats 1000000 in
set_option maxRecDepth 100000 in
theorem repeat_any {w : World} {s : Nat} {x : UInt8} {n : Nat} (hs : w.heap[s]? = some (.cells #[.int .u8 (x.toNat : Int)] 5 (0, 0))) (h1 : 1 ≤ n) (hn : n ≤ 8000) :
    Calls Try.prog 30 #[.slice (some ⟨s, 0, none⟩) 1 1, .int .i64 (n : Int)] w fun e w' => ∃ v, e = .returned v ∧ BRow w' w.heap.size v (List.replicate n x) ∧ Below w.heap.size w w' := by
  have hsl : s < w.heap.size := (Array.getElem?_eq_some_iff.1 hs).1
  have QM : Hid (∀ W, Calls Try.prog 32 #[.int .u64 1, .int .u64 (n : Int)] W fun e w' => e = .returned (.tuple #[.int .u64 0, .int .u64 (n : Int)]) ∧ W = w') := Lib.hid fun W => (Go.Proofs.Try.bits_Mul 1 n (by omega) (by omega) W).mono fun e w' h => by
    refine ⟨h.1.trans ?_, h.2.symm⟩
    rw [Nat.one_mul, Nat.div_eq_of_lt (by omega), Nat.mod_eq_of_lt (by omega)]
    rfl
  obtain ⟨cs, hrunM, hle, hmx⟩ := Lib.run_makeNoZero (P := Try.prog) w #[3] 35 5 Try.underlying35 n (by omega)
  have hcall : (callFunc 33 #[.int .i64 (n : Int)]).run Try.prog w = .ok (.value (.slice (some ⟨w.heap.size, 0, none⟩) n cs.size)) ((w.alloc (.cells cs 5)).drewN 2) := by
    rw [run_callFunc_extern Try.func33 (by kernel_rfl) (by kernel_rfl) (by kernel_rfl) (e := Extern.BytealgMakeNoZero.makeNoZero #[3] #[35]) (by kernel_rfl), hrunM]
    rfl
  clear hrunM
  have u1 : IntKind.u64.wrap (n : Int) = (n : Int) := by rw [IntKind.wrap_u64]; omega
  have u2 : IntKind.i64.wrap (n : Int) = (n : Int) := IntWalk.i64_in _ (by omega)
  have z0 : ((n : Int) == 0) = false := by simp; omega
  have z0' : (n == 0) = false := by simp; omega
  have z1 : decide ((n : Int) < 0) = false := by simp
  have z2 : decide ((9223372036854775807 : Int) < (n : Int)) = false := by simp; omega
  have z3 : decide ((8192 : Int) < (n : Int)) = false := by simp; omega
  have i0 : (0 : Int) ≤ (n : Int) := by omega
  have i1 : (n : Int) ≤ (cs.size : Int) := by omega
  have f1 : Hid ([Value.int .u8 (x.toNat : Int)].length = Nat.min 1 n) := Lib.hid (Nat.min_eq_left h1).symm
  have f2 : Hid (0 + [Value.int .u8 (x.toNat : Int)].length ≤ cs.toList.length) := Lib.hid (by simp; omega)
  have HS := Lib.hid hs
  clear hs
  go_enter Try.func30, Try.ntmps30
  go_wp2_with (first
    | (go_at_call 32; (with_reducible refine (QM.out _).mono ?_); rintro e w' ⟨rfl, rfl⟩)
    | (refine wpList_copy_splice rfl (.tmp 58) (.tmp 59) 35 35 rfl 5 Try.underlying35 iByte (some ⟨w.heap.size, 0, none⟩) (some ⟨s, 0, none⟩) n n 1 1 rfl rfl w.heap.size 0 cs.toList 5 ?_ [.int .u8 (x.toNat : Int)] f1.out ?_ f2.out ?_ w.heap.size w ?_ (Nat.le_refl _) ?_))
  · exact heap_alloc_new w _
  · intro j v hj
    match j, hj with
    | 0, hj =>
      simp at hj
      subst hj
      rw [cell_of_row w s 0 _ _ _ HS.out]
      rfl
  · simp [Value.oneCell']
  · exact Below.drew (Below.drew ((Below.refl _ w).alloc (Nat.le_refl _) _))
  · intro w2 hg2 hb2
    obtain ⟨cur, hcur⟩ : ∃ cur, cur = splice cs.toList 0 [Value.int .u8 (x.toNat : Int)] := ⟨_, rfl⟩
    have hlen : cur.length = cs.size := by rw [hcur, length_splice _ _ _ f2.out, Array.length_toList]
    have hfl : Filled cur 1 x := fun i hi => by
      obtain rfl : i = 0 := by omega
      rw [hcur]
      simp [splice]
    rw [← hcur] at hg2
    obtain ⟨g, hgw⟩ : ∃ g, g = w.heap.size := ⟨_, rfl⟩
    have HG := Lib.hid hgw
    have HB := Lib.hid hb2
    have HL := Lib.hid (And.intro hlen hfl)
    rw [← hgw] at hg2 ⊢
    clear hcur hlen hfl hgw hb2 hcall u1 z0 z0' z1 z2 z3 i0 i1 f1 f2
    go_wp2
    go_loopw [10] (fun s10 wr => ∃ (k : Nat) (cur : List Value), 1 ≤ k ∧ k ≤ n ∧ s10 = .int .i64 (k : Int) ∧ Hid (wr.heap[g]? = some (.cells cur.toArray 5 (0, 0))) ∧ Hid (cur.length = cs.size ∧ Filled cur k x) ∧ Hid (Below w.heap.size w wr)) (fun s10 _ => n - (intOf s10).toNat)
    case atStart => exact ⟨1, cur, Nat.le_refl _, h1, rfl, hg2, HL, HB⟩
    case round =>
      obtain ⟨k, cur, hk1, hk, rfl, HC, HF, HW⟩ := hrel
      by_cases hlt : k < n
      · have e1 : decide ((k : Int) < (n : Int)) = true := decide_eq_true (by omega)
        have e2 : decide (k < n) = true := decide_eq_true hlt
        have e3 : decide ((n : Int) < (k : Int)) = false := decide_eq_false (by omega)
        have e4 : (n == k) = false := by simp; omega
        have e6 : ¬ n = k := by omega
        have e5 : ((n : Int) == (k : Int)) = false := by simp; omega
        obtain ⟨p, hp⟩ : ∃ p, p = Nat.min k (n - k) := ⟨_, rfl⟩
        have hp1 : 1 ≤ p ∧ p ≤ k ∧ k + p ≤ n := by
          rw [hp]
          rcases Nat.le_total k (n - k) with h | h
          · rw [show Nat.min k (n - k) = k from Nat.min_eq_left h]; omega
          · rw [show Nat.min k (n - k) = n - k from Nat.min_eq_right h]; omega
        have hsrc : Hid (∀ j v, (List.replicate p (Value.int .u8 (x.toNat : Int)))[j]? = some v → wr.cell? ((⟨g, 0, none⟩ : Addr).add j) = some v) := Lib.hid fun j v hj => by
          rw [List.getElem?_replicate] at hj
          split at hj
          · cases hj
            have h1 := HF.out.2 j (by omega)
            rw [show ((⟨g, 0, none⟩ : Addr).add j) = ⟨g, j, none⟩ by (simp [Addr.add]; omega), cell_of_row wr g j _ _ _ HC.out]
            simpa using h1
          · cases hj
        have hfill := Lib.hid (filled_splice (m := p) HF.out.2 (by have := HF.out.1; omega))
        have hlen2 := Lib.hid (length_splice cur k (List.replicate p (Value.int .u8 (x.toNat : Int))) (by rw [List.length_replicate]; have := HF.out.1; omega))
        have HP := Lib.hid hp
        have hfit : Hid (k + (List.replicate p (Value.int .u8 (x.toNat : Int))).length ≤ cur.length) := Lib.hid (by rw [List.length_replicate]; have := HF.out.1; omega)
        have hone : Hid (∀ v ∈ List.replicate p (Value.int .u8 (x.toNat : Int)), v.oneCell' = true) := Lib.hid (fun v hv => by rw [(List.mem_replicate.1 hv).2]; rfl)
        have hn' : Hid ((List.replicate p (Value.int .u8 (x.toNat : Int))).length = Nat.min k (n - k)) := Lib.hid (by rw [List.length_replicate, hp])
        have hBg : Hid (w.heap.size ≤ g) := Lib.hid (by rw [HG.out]; exact Nat.le_refl _)
        have i3 : (k : Int) ≤ (n : Int) := by omega
        have u3 : IntKind.i64.wrap ((k : Int) + (p : Int)) = ((k + p : Nat) : Int) := by rw [IntWalk.i64_in _ (by omega)]; omega
        obtain ⟨w4, hX, H4⟩ : ∃ w4, (Builtin.copy_ #[35, 35] 3 #[.slice (some ⟨g, k, none⟩) (n - k) (n - k), .slice (some ⟨g, 0, none⟩) k n]).run Try.prog wr.drew = .ok (.int .i64 (p : Int)) w4 ∧ Hid (w4.heap[g]? = some (.cells (splice cur k (List.replicate p (Value.int .u8 (x.toNat : Int)))).toArray 5 (0, 0)) ∧ Below w.heap.size w w4) := by
          have hr := run_copy_row (P := Try.prog) wr.drew 35 35 3 5 g k (n - k) (n - k) ⟨g, 0, none⟩ k n cur.toArray 5 (List.replicate p (Value.int .u8 (x.toNat : Int))) Try.underlying35 iByte HC.out hn'.out hsrc.out (by simpa using hfit.out) hone.out
          rw [List.length_replicate] at hr
          refine ⟨_, hr, Lib.hid ⟨?_, below_setRow (Below.drew HW.out) hBg.out _⟩⟩
          rw [setRow_heap wr.drew g _ _ _ _ HC.out]
          simp [splice]
        clear hp hfit hone hn' hsrc
        go_wp2
        go_region
        go_wp2
        exact ⟨⟨k + p, _, by omega, by omega, by go_num, Lib.hid H4.out.1, Lib.hid ⟨by rw [hlen2.out]; exact HF.out.1, hfill.out⟩, Lib.hid H4.out.2⟩, by simp [intOf]; omega⟩
      · have hkn : k = n := by omega
        have e1 : decide ((k : Int) < (n : Int)) = false := decide_eq_false (by omega)
        have e2 : decide (k < n) = false := decide_eq_false (by omega)
        have HKN := Lib.hid hkn
        clear hkn hlt
        go_wp2
        go_ret
        refine ⟨.slice (some ⟨g, 0, none⟩) n n, rfl, ⟨g, n, cur.toArray, by rw [List.length_replicate], by rw [HG.out]; exact Nat.le_refl _, HC.out, fun i hi => ?_⟩, HW.out⟩
        rw [List.length_replicate] at hi
        have h2 := HF.out.2 i (by rw [HKN.out]; exact hi)
        rw [show (List.replicate n x).getD i 0 = x by simp [List.getD, hi]]
        simpa using h2
end Go.Proofs.Ytbdbcfidbapioaa
namespace Go.Proofs.Ytbdbcfidbapioaa
open Go.RowKit Go.Shelf

/-- The last letter, of the four numbers. -/
def lastT (x y : UInt8) (p0 r0 r1 : Nat) : UInt8 := if x = y then 61 else if r1 = p0 + 1 then 120 else if r1 = r0 + 1 then 45 else 43

set_option maxRecDepth 100000 in
set_option maxHeartbeats 1000000 in
theorem last_any {w : World} {x y : UInt8} {av rv : Value} {p0 p1 r0 r1 : Nat} (ha : Ints w av [p0, p1]) (hr : Ints w rv [r0, r1]) (b0 : p0 ≤ 1000000) (b1 : r0 ≤ 1000000) :
    Calls Try.prog 31 #[.int .u8 (x.toNat : Int), .int .u8 (y.toNat : Int), av, rv] w fun e w' => e = .returned (.int .u8 ((lastT x y p0 r0 r1).toNat : Int)) ∧ Below w.heap.size w w' := by
  obtain ⟨b, o, c, rfl, hc⟩ := ha.some (by simp)
  obtain ⟨b', o', c', rfl, hc'⟩ := hr.some (by simp)
  have k0 : w.cell? ⟨b, o, none⟩ = some (.int .i64 (p0 : Int)) := hc 0 (by simp)
  have k1 : w.cell? ⟨b', o', none⟩ = some (.int .i64 (r0 : Int)) := hc' 0 (by simp)
  have k2 : w.cell? ⟨b', o' + 1, none⟩ = some (.int .i64 (r1 : Int)) := hc' 1 (by simp)
  have w0 : IntKind.i64.wrap ((p0 : Int) + 1) = (p0 : Int) + 1 := IntWalk.i64_in _ (by omega)
  have w1 : IntKind.i64.wrap ((r0 : Int) + 1) = (r0 : Int) + 1 := IntWalk.i64_in _ (by omega)
  have hz : ∀ W, Below w.heap.size w W → W.cell? ⟨b, o, none⟩ = some (.int .i64 (p0 : Int)) ∧ W.cell? ⟨b', o', none⟩ = some (.int .i64 (r0 : Int)) ∧ W.cell? ⟨b', o' + 1, none⟩ = some (.int .i64 (r1 : Int)) := fun W hb =>
    ⟨(hb.cell (p := ⟨b, o, none⟩) (block_lt_of_cell k0)).trans k0, (hb.cell (p := ⟨b', o', none⟩) (block_lt_of_cell k1)).trans k1, (hb.cell (p := ⟨b', o' + 1, none⟩) (block_lt_of_cell k2)).trans k2⟩
  have HZ := Lib.hid hz
  simp only [List.length_cons, List.length_nil] at *
  clear ha hr hc hc' hz
  by_cases h : x = y
  · subst h
    have hl : lastT x x p0 r0 r1 = 61 := by unfold lastT; rw [if_pos rfl]
    rw [hl]
    clear hl
    go_enter Try.func31, Try.ntmps31
    go_wp2
    go_ret
    exact ⟨rfl, Below.refl _ _⟩
  have hn : x.toNat ≠ y.toNat := fun e => h (UInt8.toNat_inj.1 e)
  have e1 : ((x.toNat : Int) == (y.toNat : Int)) = false := by simp; omega
  have e2 : (x.toNat == y.toNat) = false := by simp; omega
  by_cases h2 : r1 = p0 + 1
  · have hl : lastT x y p0 r0 r1 = 120 := by unfold lastT; rw [if_neg h, if_pos h2]
    rw [hl]
    have e3 : ((r1 : Int) == (p0 : Int) + 1) = true := by simp; omega
    clear hl h h2 hn
    go_enter Try.func31, Try.ntmps31
    go_wp2
    go_region
    go_wp2
    go_ret
    exact ⟨rfl, Below.drew (Below.refl _ _)⟩
  have e3 : ((r1 : Int) == (p0 : Int) + 1) = false := by simp; omega
  by_cases h3 : r1 = r0 + 1
  · have hl : lastT x y p0 r0 r1 = 45 := by unfold lastT; rw [if_neg h, if_neg h2, if_pos h3]
    rw [hl]
    have e4 : ((r1 : Int) == (r0 : Int) + 1) = true := by simp; omega
    clear hl h h2 hn h3
    go_enter Try.func31, Try.ntmps31
    go_wp2
    go_region
    go_wp2
    go_region
    go_wp2
    go_ret
    exact ⟨rfl, Below.drew (Below.drew (Below.refl _ _))⟩
  · have hl : lastT x y p0 r0 r1 = 43 := by unfold lastT; rw [if_neg h, if_neg h2, if_neg h3]
    rw [hl]
    have e4 : ((r1 : Int) == (r0 : Int) + 1) = false := by simp; omega
    clear hl h h2 hn h3
    go_enter Try.func31, Try.ntmps31
    go_wp2
    go_region
    go_wp2
    go_region
    go_wp2
    go_ret
    exact ⟨rfl, Below.drew (Below.drew (Below.refl _ _))⟩

/-- Two bytes of a row changed about. -/
def swapT (l : List UInt8) (i j : Nat) : List UInt8 := (l.set i (l.getD j 0)).set j (l.getD i 0)
/-- The row that is being turned about: its first and last k bytes are. -/
def turnK (l : List UInt8) (k : Nat) : List UInt8 := (List.range l.length).map fun i => if i < k ∨ l.length - k ≤ i then l.getD (l.length - 1 - i) 0 else l.getD i 0
theorem turnK_length (l : List UInt8) (k : Nat) : (turnK l k).length = l.length := by simp [turnK]
theorem turnK_at (l : List UInt8) (k i : Nat) (h : i < l.length) : (turnK l k).getD i 0 = if i < k ∨ l.length - k ≤ i then l.getD (l.length - 1 - i) 0 else l.getD i 0 := by
  unfold turnK
  rw [List.getD_eq_getElem?_getD, List.getElem?_map, List.getElem?_range h]
  rfl
theorem turnK_zero (l : List UInt8) : turnK l 0 = l := by
  apply List.ext_getElem
  · rw [turnK_length]
  · intro i h1 h2
    have := turnK_at l 0 i h2
    rw [if_neg (by omega)] at this
    simpa [List.getD, h1, h2] using this
theorem turnK_all (l : List UInt8) (k : Nat) (hk : l.length ≤ 2 * k + 1) : turnK l k = l.reverse := by
  apply List.ext_getElem
  · rw [turnK_length, List.length_reverse]
  · intro i h1 h2
    rw [turnK_length] at h1
    have h3 := turnK_at l k i h1
    have h4 : (turnK l k).getD i 0 = l.getD (l.length - 1 - i) 0 := by
      rw [h3]
      by_cases c : i < k ∨ l.length - k ≤ i
      · rw [if_pos c]
      · rw [if_neg c, show l.length - 1 - i = i by omega]
    have h5 : i < (turnK l k).length := by rw [turnK_length]; exact h1
    rw [List.getElem_reverse]
    have h6 : l.length - 1 - i < l.length := by omega
    simpa [List.getD, h5, h6] using h4
theorem turnK_get (l : List UInt8) (k i : Nat) (h : i < l.length) : (turnK l k)[i]? = some (if i < k ∨ l.length - k ≤ i then l.getD (l.length - 1 - i) 0 else l.getD i 0) := by
  unfold turnK
  rw [List.getElem?_map, List.getElem?_range h]
  rfl
theorem turnK_swap (l : List UInt8) (k : Nat) (hk : 2 * k + 1 < l.length) : swapT (turnK l k) k (l.length - 1 - k) = turnK l (k + 1) := by
  apply List.ext_getElem?
  intro i
  unfold swapT
  rw [List.getElem?_set, List.getElem?_set, List.length_set, turnK_length]
  by_cases h2 : i < l.length
  · rw [turnK_get l (k + 1) i h2, turnK_get l k i h2, turnK_at l k k (by omega), turnK_at l k _ (by omega)]
    rw [if_neg (by omega : ¬ (k < k ∨ l.length - k ≤ k)), if_neg (by omega : ¬ (l.length - 1 - k < k ∨ l.length - k ≤ l.length - 1 - k))]
    by_cases c1 : l.length - 1 - k = i
    · subst c1
      rw [if_pos rfl, if_pos h2, if_pos (by omega), show l.length - 1 - (l.length - 1 - k) = k by omega]
    · rw [if_neg c1]
      by_cases c2 : k = i
      · subst c2
        rw [if_pos rfl, if_pos h2, if_pos (by omega)]
      · rw [if_neg c2]
        by_cases c3 : i < k ∨ l.length - k ≤ i
        · rw [if_pos c3, if_pos (by omega)]
        · rw [if_neg c3, if_neg (by omega)]
  · rw [if_neg (by omega), if_neg (by omega), List.getElem?_eq_none (by rw [turnK_length]; omega), List.getElem?_eq_none (by rw [turnK_length]; omega)]
theorem grown_two {a b c : World} {r : Option Nat} (h : a.grownBy b r) (k : b.grownBy c r) : a.grownBy c r :=
  ⟨k.os.trans h.os, k.tape.trans h.tape, k.output.trans h.output, Nat.le_trans h.size k.size, fun i hi hr => (k.block i (Nat.lt_of_lt_of_le hi h.size) hr).trans (h.block i hi hr)⟩
theorem owns_slice' {w : World} {base size n : Nat} {e : TypeId} {v : Value} {xs : List Value} (h : w.ownsRow base e size v n xs) : ∃ ad c, v = .slice ad n c := by
  rcases h.2 with ⟨rfl, rfl⟩ | ⟨g, cap, cur, rfl, _⟩
  · exact ⟨_, _, rfl⟩
  · exact ⟨_, _, rfl⟩
def bys (l : List UInt8) : List Value := l.map fun x => Value.int .u8 (x.toNat : Int)
theorem bys_length (l : List UInt8) : (bys l).length = l.length := by simp [bys]
theorem bys_at {l : List UInt8} {i : Nat} (h : i < l.length) : (bys l)[i]? = some (.int .u8 ((l.getD i 0).toNat : Int)) := by simp [bys, h]
theorem bys_set (l : List UInt8) (i : Nat) (x : UInt8) : (bys l).set i (.int .u8 (x.toNat : Int)) = bys (l.set i x) := by simp [bys, List.map_set]

set_option maxRecDepth 100000 in
set_option maxHeartbeats 1000000 in
theorem reverse_any {w : World} {base : Nat} {v : Value} {l : List UInt8} (h : w.ownsRow base 5 1 v l.length (bys l)) (hz : l.length ≤ 1000000) :
    Calls Try.prog 22 #[v] w fun e w' => e = .returned (.tuple #[]) ∧ w'.ownsRow base 5 1 v l.length (bys l.reverse) ∧ w.grownBy w' v.ownBlock := by
  obtain ⟨ad, cap, rfl⟩ := owns_slice' h
  obtain ⟨n, hnl⟩ : ∃ n, n = l.length := ⟨_, rfl⟩
  have HR : Hid (w.ownsRow base 5 1 (.slice ad n cap) n (bys (turnK l 0))) := Lib.hid (by rw [turnK_zero, hnl]; exact h)
  have HL := Lib.hid hnl
  clear h
  rw [← hnl] at hz ⊢
  clear hnl
  go_enter Try.func22, Try.ntmps22
  go_wp2
  go_loopw [2, 3] (fun s2 s3 wr => ∃ k : Nat, 2 * k ≤ n ∧ s2 = .int .i64 (k : Int) ∧ s3 = .int .i64 ((n : Int) - 1 - (k : Int)) ∧ Hid (wr.ownsRow base 5 1 (.slice ad n cap) n (bys (turnK l k))) ∧ Hid (w.grownBy wr (Value.slice ad n cap).ownBlock)) (fun s2 _ _ => n - (intOf s2).toNat)
  case atStart => exact ⟨0, by omega, rfl, by simp, HR, Lib.hid ⟨rfl, rfl, rfl, Nat.le_refl _, fun _ _ _ => rfl⟩⟩
  case round =>
    obtain ⟨k, hk, rfl, rfl, HO, HG⟩ := hrel
    by_cases hlt : 2 * k + 1 < n
    · obtain ⟨g, rfl⟩ : ∃ g, ad = some ⟨g, 0, none⟩ := by
        rcases HO.out.2 with ⟨h1, h0⟩ | ⟨g, cap, cur, h1, _⟩
        · omega
        · injection h1 with h1
          exact ⟨g, h1⟩
      obtain ⟨j, hj⟩ : ∃ j, j = n - 1 - k := ⟨_, rfl⟩
      have ej : (n : Int) - 1 - (k : Int) = (j : Int) := by omega
      have e1 : decide ((k : Int) < (j : Int)) = true := decide_eq_true (by omega)
      have e2 : decide (k < j) = true := decide_eq_true (by omega)
      have hll := HL.out
      have ck : wr.cell? ⟨g, k, none⟩ = some (.int .u8 (((turnK l k).getD k 0).toNat : Int)) := by
        rw [HO.out.cellAt k (by omega), bys_at (by rw [turnK_length]; omega)]
      have cj : wr.cell? ⟨g, j, none⟩ = some (.int .u8 (((turnK l k).getD j 0).toNat : Int)) := by
        rw [HO.out.cellAt j (by omega), bys_at (by rw [turnK_length]; omega)]
      have fk := HO.out.frozenAt k
      have fj := HO.out.frozenAt j
      have hsw := turnK_swap l k (by omega)
      rw [show l.length - 1 - k = j by omega] at hsw
      unfold swapT at hsw
      obtain ⟨x, hx⟩ : ∃ x, (turnK l k).getD k 0 = x := ⟨_, rfl⟩
      obtain ⟨y, hy⟩ : ∃ y, (turnK l k).getD j 0 = y := ⟨_, rfl⟩
      rw [hx] at ck hsw
      rw [hy] at cj hsw
      have s1 := HO.out.stored k (.int .u8 (y.toNat : Int))
      rw [bys_set] at s1
      have s2 := s1.1.stored j (.int .u8 (x.toNat : Int))
      rw [bys_set, hsw] at s2
      have hgg : w.grownBy ((wr.setCell ⟨g, k, none⟩ (.int .u8 (y.toNat : Int))).setCell ⟨g, j, none⟩ (.int .u8 (x.toNat : Int))) (some g) := grown_two (grown_two HG.out s1.2) s2.2
      have HS := Lib.hid (And.intro s2.1 hgg)
      have hkj : k ≠ j := by omega
      have ik : (k : Int) < (n : Int) := by omega
      have ij : (j : Int) < (n : Int) := by omega
      have ikn : k < n := by omega
      have ijn : j < n := by omega
      have HJ := Lib.hid hj
      rw [ej]
      clear ej hll hsw hx hy s1 s2 hgg hj
      go_wp2
      go_region
      go_wp2
      exact ⟨⟨k + 1, by omega, by go_num, by (have := HJ.out; first | (congr 1; omega) | (congr 2; omega)), Lib.hid HS.out.1, Lib.hid ⟨HS.out.2.os, HS.out.2.tape, HS.out.2.output, HS.out.2.size, HS.out.2.block⟩⟩, by simp [intOf]; omega⟩
    · have e1 : decide ((k : Int) < (n : Int) - 1 - (k : Int)) = false := decide_eq_false (by omega)
      have HK : Hid (turnK l k = l.reverse) := Lib.hid (turnK_all l k (by have := HL.out; omega))
      clear hlt
      go_wp2
      refine bodyPost_end (v := .tuple #[]) (by simp [results, Try.results22, go_sem]) rfl ?_
      exact ⟨rfl, by rw [← HK.out]; exact HO.out, HG.out⟩
end Go.Proofs.Ytbdbcfidbapioaa

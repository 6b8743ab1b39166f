/-
  States as strings, rows of bytes in memory, an automaton's block; slices.Max and slices.Min at bytes, lev's capped.
-/
import Derived.Test.YthgdanbkngnckaaT01
import Derived.Test.YthgdanbkngnckaaT05
import Derived.Test.YthgdanbkngnckaaT06
set_option linter.unusedVariables false
set_option linter.unusedSimpArgs false
namespace Go.Proofs.Ythgdanbkngnckaa
open Go.RowKit Go.Shelf Said

def nums (s : ByteArray) : List Nat := s.data.toList.map UInt8.toNat
def bin (l : List Nat) : ByteArray := ⟨(l.map UInt8.ofNat).toArray⟩
theorem nums_length (s : ByteArray) : (nums s).length = s.size := by simp [nums]
theorem bin_size (l : List Nat) : (bin l).size = l.length := by simp [bin, ByteArray.size]
theorem nums_at (s : ByteArray) {i : Nat} (h : i < s.size) : (nums s).getD i 0 = s[i].toNat := by
  have h' : i < s.data.size := h
  simp only [nums, List.getD, List.getElem?_map, Array.getElem?_toList, Array.getElem?_eq_getElem h']
  rfl
theorem nums_lt (s : ByteArray) (i : Nat) : (nums s).getD i 0 < 256 := by
  by_cases h : i < s.size
  · rw [nums_at s h]; exact s[i].toNat_lt
  · have h' : s.data.size ≤ i := Nat.le_of_not_lt h
    simp [nums, List.getD, Array.getElem?_eq_none h']
theorem nums_bin {l : List Nat} (h : ∀ i, l.getD i 0 < 256) : nums (bin l) = l := by
  apply list_ext0
  · rw [nums_length, bin_size]
  · intro i hi
    rw [nums_length, bin_size] at hi
    have := h i
    simp only [List.getD, hi, List.getElem?_eq_getElem, Option.getD_some] at this
    simp [nums, bin, List.getD, hi]
    omega
theorem bin_nums (s : ByteArray) : bin (nums s) = s := by
  apply ba_ext
  simp only [bin, nums, List.map_map]
  conv => rhs; rw [← List.map_id s.data.toList]
  apply List.map_congr_left
  intro x _
  simp
theorem is_lt {q : List UInt8} {k : Nat} {r : List Nat} (h : IsL q k r) (hk : k ≤ 200) (i : Nat) : r.getD i 0 < 256 := by have := h.2 i; omega

def u8s (l : List Nat) : List Value := l.map fun (n : Nat) => Value.int .u8 (n : Int)
theorem u8s_length (l : List Nat) : (u8s l).length = l.length := by simp [u8s]
theorem u8s_at {l : List Nat} {i : Nat} (h : i < l.length) : (u8s l)[i]? = some (.int .u8 ((l.getD i 0 : Nat) : Int)) := by simp [u8s, h]
theorem u8s_set (l : List Nat) (i x : Nat) : (u8s l).set i (.int .u8 (x : Int)) = u8s (l.set i x) := by simp [u8s, List.map_set]

/-- A row of bytes that is read. -/
def Byts (w : World) (v : Value) (l : List Nat) : Prop :=
  ∃ ad c, v = .slice ad l.length c ∧ ∀ i, i < l.length → ∃ b o, ad = some ⟨b, o, none⟩ ∧ w.cell? ⟨b, o + i, none⟩ = some (.int .u8 ((l.getD i 0 : Nat) : Int))
theorem Byts.below {w w' : World} {v : Value} {l : List Nat} (h : Byts w v l) (hb : Below w.heap.size w w') : Byts w' v l := by
  obtain ⟨ad, c, hv, hc⟩ := h
  refine ⟨ad, c, hv, fun i hi => ?_⟩
  obtain ⟨b, o, ha, hci⟩ := hc i hi
  refine ⟨b, o, ha, ?_⟩
  rw [hb.cell (p := ⟨b, o + i, none⟩) (block_lt_of_cell hci)]
  exact hci
theorem Byts.some {w : World} {v : Value} {l : List Nat} (h : Byts w v l) (hl : 0 < l.length) : ∃ b o c, v = .slice (some ⟨b, o, none⟩) l.length c ∧ ∀ i, i < l.length → w.cell? ⟨b, o + i, none⟩ = some (.int .u8 ((l.getD i 0 : Nat) : Int)) := by
  obtain ⟨ad, c, rfl, hc⟩ := h
  obtain ⟨b, o, rfl, _⟩ := hc 0 hl
  refine ⟨b, o, c, rfl, fun i hi => ?_⟩
  obtain ⟨b', o', e, h⟩ := hc i hi
  injection e with e
  injection e with e1 e2
  subst e1 e2
  exact h
theorem byts_mono (l : List Nat) : Mono (fun v W => Byts W v l) := fun _ _ _ hb h => h.below hb
theorem byts_of_owns {w : World} {base : Nat} {v : Value} {l : List Nat} (h : w.ownsRow base 5 1 v l.length (u8s l)) : Byts w v l := by
  rcases h.2 with ⟨rfl, h0⟩ | ⟨g, cap, cur, rfl, _, hg, _, _, _, ht⟩
  · exact ⟨none, 0, by rw [h0], fun i hi => by omega⟩
  · refine ⟨_, cap, rfl, fun i hi => ⟨g, 0, rfl, ?_⟩⟩
    have hx := u8s_at hi
    rw [← ht, List.getElem?_take] at hx
    split at hx
    · rw [Array.getElem?_toList] at hx
      simp [World.cell?, hg, hx]
    · cases hx
theorem byts_conv (w : World) (s : ByteArray) : Byts (Lib.bytesWorld w 5 s) (.slice (some ⟨w.heap.size, 0, none⟩) s.size (grownCap w s.size 0 5)) (nums s) := by
  refine ⟨some ⟨w.heap.size, 0, none⟩, grownCap w s.size 0 5, by rw [nums_length], fun i hi => ⟨w.heap.size, 0, rfl, ?_⟩⟩
  rw [nums_length] at hi
  rw [Nat.zero_add, Lib.bytesWorld_cell w 5 s i hi, nums_at s hi, byte_getD s i hi]

/-- An automaton's block. -/
def AutoAt (w : World) (p : Nat) (q : ByteArray) (k : Nat) : Prop := w.cell? ⟨p, 0, none⟩ = some (.string q) ∧ w.cell? ⟨p, 1, none⟩ = some (.int .u8 (k : Int))
theorem AutoAt.below {w w' : World} {p : Nat} {q : ByteArray} {k : Nat} (h : AutoAt w p q k) (hb : Below w.heap.size w w') : AutoAt w' p q k :=
  ⟨by rw [hb.cell (block_lt_of_cell h.1)]; exact h.1, by rw [hb.cell (block_lt_of_cell h.2)]; exact h.2⟩

def maxT (l : List Nat) : Nat := l.foldl max 0
theorem foldl_max (l : List Nat) : ∀ x b, l.foldl max x ≤ b ↔ x ≤ b ∧ ∀ y ∈ l, y ≤ b := by
  induction l with
  | nil => intro x b; simp
  | cons z l ih =>
    intro x b
    rw [List.foldl_cons, ih]
    simp only [List.mem_cons, forall_eq_or_imp, Nat.max_le, and_assoc]
theorem maxT_le (l : List Nat) (b : Nat) : maxT l ≤ b ↔ ∀ i, l.getD i 0 ≤ b := by
  unfold maxT
  rw [foldl_max]
  constructor
  · rintro ⟨-, h⟩ i
    by_cases hi : i < l.length
    · exact h _ (getD_mem hi)
    · simp [List.getD, hi]
  · intro h
    refine ⟨Nat.zero_le _, fun y hy => ?_⟩
    obtain ⟨i, hi, e⟩ := List.getElem_of_mem hy
    have := h i
    simpa [List.getD, hi, e] using this
theorem foldlmax_take_succ (l : List Nat) (x : Nat) (k : Nat) (h : k < l.length) : (l.take (k + 1)).foldl max x = max ((l.take k).foldl max x) (l.getD k 0) := by
  rw [List.take_succ_eq_append_getElem h, List.foldl_append]
  simp [List.getD, h]

set_option maxRecDepth 100000 in
theorem max8_any {l : List Nat} {v : Value} {w : World} (h : Byts w v l) (hl : 0 < l.length) (hz : l.length ≤ 1000000) :
    Calls Try.prog 53 #[v] w fun e w' => e = .returned (.int .u8 ((maxT l : Nat) : Int)) ∧ w = w' := by
  obtain ⟨b, o, c, rfl, hc⟩ := h.some hl
  obtain ⟨x, r, rfl⟩ : ∃ x r, l = x :: r := by
    cases l with
    | nil => simp at hl
    | cons x r => exact ⟨x, r, rfl⟩
  obtain ⟨n, hn⟩ : ∃ n, n = r.length := ⟨_, rfl⟩
  have c0 : w.cell? ⟨b, o, none⟩ = some (.int .u8 (x : Int)) := hc 0 hl
  have hcs : Hid (∀ k, k < n → w.cell? ⟨b, o + (k + 1), none⟩ = some (.int .u8 ((r.getD k 0 : Nat) : Int))) := Lib.hid fun k hk => hc (k + 1) (by simp; omega)
  have hmx : maxT (x :: r) = r.foldl max x := by simp [maxT]
  rw [hmx]
  simp only [List.length_cons] at hz ⊢
  rw [← hn] at hz ⊢
  have HN := Lib.hid hn
  clear hc hl hn h hmx
  have d0 : decide ((n : Int) + 1 < 1) = false := by simp; omega
  have d1 : decide (n + 1 < 1) = false := by simp
  go_enter Try.func53, Try.ntmps53
  go_wp2
  go_loop [3, 4] (fun m i => ∃ k : Nat, k ≤ n ∧ i = .int .i64 ((k + 1 : Nat) : Int) ∧ m = .int .u8 (((r.take k).foldl max x : Nat) : Int)) (fun _ i => n + 1 - (intOf i).toNat)
  case atStart => exact ⟨0, Nat.zero_le _, rfl, rfl⟩
  case round =>
    obtain ⟨k, hk, rfl, rfl⟩ := hrel
    by_cases hlt : k < n
    · have hck := hcs.out k hlt
      have e1 : decide ((((k + 1 : Nat) : Nat) : Int) < ((n + 1 : Nat) : Int)) = true := by simp; omega
      have e2 : decide (k + 1 < n + 1) = true := by simp; omega
      have e3 : decide (k < n) = true := by simp; omega
      have hf := foldlmax_take_succ r x k (by rw [← HN.out]; exact hlt)
      obtain ⟨y, hy⟩ : ∃ y, r.getD k 0 = y := ⟨_, rfl⟩
      rw [hy] at hck hf
      obtain ⟨z, hz⟩ : ∃ z, (r.take k).foldl max x = z := ⟨_, rfl⟩
      rw [hz] at hf ⊢
      have HF := Lib.hid hf
      clear hf hy hz
      go_wp2
      all_goals
        go_round
        case rel => exact ⟨k + 1, by omega, by go_num, by rw [HF.out]; first | rfl | (congr 2; omega) | go_num⟩
        case measure => simp [intOf]; omega
    · have hkn : k = n := by omega
      subst hkn
      have e1 : decide ((((k + 1 : Nat) : Nat) : Int) < ((k + 1 : Nat) : Int)) = false := by simp
      clear hlt
      go_wp2
      go_ret
      refine ⟨?_, rfl⟩
      rw [HN.out, List.take_length]
      rfl

set_option maxRecDepth 100000 in
theorem min8_any {l : List Nat} {v : Value} {w : World} (h : Byts w v l) (hl : 0 < l.length) (hz : l.length ≤ 1000000) :
    Calls Try.prog 60 #[v] w fun e w' => e = .returned (.int .u8 ((minT l : Nat) : Int)) ∧ w = w' := by
  obtain ⟨b, o, c, rfl, hc⟩ := h.some hl
  obtain ⟨x, r, rfl⟩ : ∃ x r, l = x :: r := by
    cases l with
    | nil => simp at hl
    | cons x r => exact ⟨x, r, rfl⟩
  obtain ⟨n, hn⟩ : ∃ n, n = r.length := ⟨_, rfl⟩
  have c0 : w.cell? ⟨b, o, none⟩ = some (.int .u8 (x : Int)) := hc 0 hl
  have hcs : Hid (∀ k, k < n → w.cell? ⟨b, o + (k + 1), none⟩ = some (.int .u8 ((r.getD k 0 : Nat) : Int))) := Lib.hid fun k hk => hc (k + 1) (by simp; omega)
  simp only [List.length_cons] at hz ⊢
  rw [← hn] at hz ⊢
  have HN := Lib.hid hn
  clear hc hl hn h
  have d0 : decide ((n : Int) + 1 < 1) = false := by simp; omega
  have d1 : decide (n + 1 < 1) = false := by simp
  go_enter Try.func60, Try.ntmps60
  go_wp2
  go_loop [3, 4] (fun m i => ∃ k : Nat, k ≤ n ∧ i = .int .i64 ((k + 1 : Nat) : Int) ∧ m = .int .u8 (((r.take k).foldl min x : Nat) : Int)) (fun _ i => n + 1 - (intOf i).toNat)
  case atStart => exact ⟨0, Nat.zero_le _, rfl, rfl⟩
  case round =>
    obtain ⟨k, hk, rfl, rfl⟩ := hrel
    by_cases hlt : k < n
    · have hck := hcs.out k hlt
      have e1 : decide ((((k + 1 : Nat) : Nat) : Int) < ((n + 1 : Nat) : Int)) = true := by simp; omega
      have e2 : decide (k + 1 < n + 1) = true := by simp; omega
      have e3 : decide (k < n) = true := by simp; omega
      have hf := foldl_take_succ r x k (by rw [← HN.out]; exact hlt)
      obtain ⟨y, hy⟩ : ∃ y, r.getD k 0 = y := ⟨_, rfl⟩
      rw [hy] at hck hf
      obtain ⟨z, hz⟩ : ∃ z, (r.take k).foldl min x = z := ⟨_, rfl⟩
      rw [hz] at hf ⊢
      have HF := Lib.hid hf
      clear hf hy hz
      go_wp2
      all_goals
        go_round
        case rel => exact ⟨k + 1, by omega, by go_num, by rw [HF.out]; first | rfl | (congr 2; omega) | go_num⟩
        case measure => simp [intOf]; omega
    · have hkn : k = n := by omega
      subst hkn
      have e1 : decide ((((k + 1 : Nat) : Nat) : Int) < ((k + 1 : Nat) : Int)) = false := by simp
      clear hlt
      go_wp2
      go_ret
      refine ⟨?_, rfl⟩
      rw [HN.out, List.take_length]
      rfl

set_option maxRecDepth 100000 in
theorem capped_any {p k x : Nat} {q : ByteArray} {w : World} (h : AutoAt w p q k) (hk : k ≤ 3) :
    Calls Try.prog 27 #[.pointer (some ⟨p, 0, none⟩), .int .u8 (x : Int)] w fun e w' => e = .returned (.int .u8 ((cap k x : Nat) : Int)) ∧ w = w' := by
  have c1 := h.2
  have w1 : IntKind.u8.wrap ((k : Int) + 1) = ((k + 1 : Nat) : Int) := by
    rcases (show k = 0 ∨ k = 1 ∨ k = 2 ∨ k = 3 by omega) with rfl | rfl | rfl | rfl <;> rfl
  unfold cap
  by_cases hx : x ≤ k + 1
  · rw [Nat.min_eq_left hx]
    clear h
    go_enter Try.func27, Try.ntmps27
    go_wp2
    go_ret
    refine ⟨?_, rfl⟩
    first | rfl | (congr 2; omega)
  · rw [Nat.min_eq_right (by omega)]
    clear h
    go_enter Try.func27, Try.ntmps27
    go_wp2
    go_ret
    refine ⟨?_, rfl⟩
    first | rfl | (congr 2; omega)
end Go.Proofs.Ythgdanbkngnckaa

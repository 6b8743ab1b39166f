/-
  Small laws for walks: worlds below which nothing has turned, rows of bytes in memory, strings as rows of bytes.
-/
import Derived.Test.YthgdanbkngnckaaProg
import Derived.WalkKit
import Derived.WalkSpells
import Derived.WalkLawsBesides
import Derived.Lib.Hide
import Derived.Deep.QuietTactic
import Derived.BigQuiet
import Derived.Lib.QuietBelow
import Derived.Lib.ConvBytes
import Derived.Lib.Strings
set_option linter.unusedVariables false
set_option linter.unusedSimpArgs false
namespace Go.Proofs.Ythgdanbkngnckaa
open Go.RowKit

theorem ret_nat {k : IntKind} {a b : Nat} (h : a = b) : Ending.returned (.int k (a : Int)) = .returned (.int k (b : Int)) := by rw [h]

theorem take_snoc (s : ByteArray) (k : Nat) (h : k < s.size) : s.data.toList.take (k + 1) = s.data.toList.take k ++ [s[k]] := by
  rw [List.take_succ_eq_append_getElem (by simpa using h)]; rfl

theorem take_all (s : ByteArray) : s.data.toList.take s.size = s.data.toList := List.take_of_length_le (by simp)

theorem byteNum (x : Nat) : UInt8.ofNat ((x : Int) % 256).toNat = UInt8.ofNat (x % 256) := by congr 1

theorem four_cells (w : World) (a b c d : Int) (e : TypeId) : ∀ i, i < 4 → (w.alloc (.cells #[.int .u8 a, .int .u8 b, .int .u8 c, .int .u8 d] e)).cell? ⟨w.heap.size, 0 + i, none⟩ = some (.int .u8 ([a, b, c, d].getD i 0)) := by
  intro i hi
  rcases (show i = 0 ∨ i = 1 ∨ i = 2 ∨ i = 3 by omega) with rfl | rfl | rfl | rfl <;> simp [go_sem]

theorem half_cast (c : Nat) : ((c : Nat) : Int) / 2 = ((c / 2 : Nat) : Int) := by omega

theorem below_two {w w1 w2 : World} (h : Below w.heap.size w w1) (k : Below w1.heap.size w1 w2) : Below w.heap.size w w2 := h.trans (k.mono h.size)

theorem quiet_call {f : FuncId} {args : Array Value} {v : Value} {w : World} (h : ∀ w0, Below w.heap.size w w0 → Calls Try.prog f args w0 fun e w' => e = .returned v ∧ Below w0.heap.size w0 w') (d : Nat) (os : Array Obj) :
    Calls Try.prog f args (Sort.grow (redrawn w d) os) fun e w'' => e = .returned v ∧ ∃ p : Regrown, w'' = Sort.grow (redrawn w p.d) p.os := Calls.regrown_of (h _ (below_regrown w d os))

theorem toList_beq (a b : ByteArray) : (a.toList == b.toList) = decide (a = b) := by
  rw [ByteArray.toList_eq, ByteArray.toList_eq, Bool.eq_iff_iff, beq_iff_eq, decide_eq_true_eq]
  constructor
  · intro h
    exact ByteArray.ext (Array.toList_inj.1 h)
  · rintro rfl; rfl

theorem Below.next {w a b : World} (h : Below w.heap.size w a) (k : Below a.heap.size a b) : Below w.heap.size w b := h.trans (k.mono h.size)

theorem ba_ext {a b : ByteArray} (h : a.data.toList = b.data.toList) : a = b := ByteArray.ext (Array.toList_inj.1 h)

theorem ba_append (a b : ByteArray) : (a ++ b).data.toList = a.data.toList ++ b.data.toList := by simp

theorem ba_extract (s : ByteArray) (i j : Nat) : (s.extract i j).data.toList = (s.data.toList.drop i).take (j - i) := Lib.extract_data s i j

theorem ba_length (s : ByteArray) : s.data.toList.length = s.size := by simp

theorem cut_join (s : ByteArray) (k : Nat) : (s.extract 0 k).data.toList ++ (s.extract k s.size).data.toList = s.data.toList := by
  rw [ba_extract, ba_extract, List.drop_zero, Nat.sub_zero, List.take_of_length_le (l := List.drop k _) (by simp), List.take_append_drop]

/-- The first cells of block b are these bytes, and may be written. -/
def RowOf (w : World) (b : Nat) (l : List UInt8) : Prop := (∀ i, i < l.length → w.cell? ⟨b, i, none⟩ = some (.int .u8 ((l.getD i 0).toNat : Int))) ∧ (∀ i, i < l.length → w.frozen? ⟨b, i, none⟩ = false)

theorem below_conv (w : World) (s : ByteArray) : Below w.heap.size w (Lib.bytesWorld w 5 s) :=
  Lib.below_freeze ((Below.drew (Below.refl _ w)).alloc (Nat.le_refl _) _) (p := ⟨w.heap.size, _, none⟩) (Nat.le_refl _) 1

theorem rowOf_conv (w : World) (s : ByteArray) : RowOf (Lib.bytesWorld w 5 s) w.heap.size s.data.toList := by
  constructor
  · intro i hi
    exact Lib.bytesWorld_cell w 5 s i (by simpa using hi)
  · intro i hi
    have hC : s.size ≤ (Lib.bytesCells w 5 s).size := by simp [Lib.bytesCells]
    have hi' : i < s.size := by simpa using hi
    unfold World.frozen?
    rw [Lib.bytesWorld_at_new]
    simp
    omega

theorem getD_lt8 {l : List UInt8} {i : Nat} (h : i < l.length) : l.getD i 0 = l[i] := by simp [h]

set_option maxRecDepth 100000 in
theorem rowOf_str {w : World} {b c : Nat} {l : List UInt8} (h : RowOf w b l) : (convert 38 9 (.slice (some ⟨b, 0, none⟩) l.length c)).run Try.prog w = .ok (.string ⟨l.toArray⟩) w := by
  have hcv := run_convert_bytes_arg (P := Try.prog) w 38 5 Try.underlying38 Try.underlying5 b 0 l.length c (l.map fun x => (x.toNat : Int)) (by simp) (fun i hi => by
    rw [Nat.zero_add, h.1 i hi]
    congr 2
    simp [List.getD, hi]) 9 Try.underlying9
  rw [hcv]
  congr 2
  apply ByteArray.ext
  apply Array.toList_inj.1
  rw [strOfNums_data, List.map_map]
  show _ = l
  conv => rhs; rw [← List.map_id l]
  apply List.map_congr_left
  intro x _
  simp

theorem bit_test (p j : Nat) (hp : p < 4294967296) : bits .and .u32 ((p : Int) / 2 ^ j) 1 = ((p / 2 ^ j % 2 : Nat) : Int) := by
  have e : ((p : Int) / 2 ^ j) = ((p / 2 ^ j : Nat) : Int) := by
    rw [Int.natCast_ediv, Int.natCast_pow]
    rfl
  have hlt : p / 2 ^ j < 4294967296 := Nat.lt_of_le_of_lt (Nat.div_le_self _ _) hp
  have h := u32_and_nat (p / 2 ^ j) 1 hlt (by omega)
  rw [nat_mask1] at h
  rw [e]
  exact h

theorem eight_cells (w : World) (a b c d a' b' c' d' : Int) (e : TypeId) : ∀ i, i < 8 → (w.alloc (.cells #[.int .u8 a, .int .u8 b, .int .u8 c, .int .u8 d, .int .u8 a', .int .u8 b', .int .u8 c', .int .u8 d'] e)).cell? ⟨w.heap.size, i, none⟩ = some (.int .u8 ([a, b, c, d, a', b', c', d'].getD i 0)) := by
  intro i hi
  rcases (show i = 0 ∨ i = 1 ∨ i = 2 ∨ i = 3 ∨ i = 4 ∨ i = 5 ∨ i = 6 ∨ i = 7 by omega) with rfl | rfl | rfl | rfl | rfl | rfl | rfl | rfl <;> simp [go_sem]

theorem ba_size_append (a b : ByteArray) : (a ++ b).size = a.size + b.size := by rw [← ba_length, ba_append, List.length_append, ba_length, ba_length]

theorem i5 : (Try.prog.info? 5).map (fun i => (i.zero, i.size, i.bytes)) = some (some (.int .u8 0), 1, 1) := by kernel_rfl

theorem rowOf_made (w : World) (n : Nat) : RowOf (w.alloc (.cells (madeCells #[.int .u8 0] n) 5)) w.heap.size (List.replicate n 0) := by
  constructor
  · intro i hi
    have hi' : i < n := by simpa using hi
    rw [World.cell?_alloc_at (hn := rfl)]
    have h : (madeCells #[Value.int .u8 0] n)[i]? = (List.replicate n (Value.int .u8 0))[i]? := by rw [← toList_madeCells_one]; simp
    rw [h]
    simp [List.getD, hi']
  · intro i _
    exact World.frozen?_alloc_at (w := w) (hn := rfl) ..

theorem rowOf_set {w : World} {b : Nat} {l : List UInt8} (h : RowOf w b l) (i : Nat) (hi : i < l.length) (y : UInt8) :
    RowOf ((w.setCell ⟨b, i, none⟩ (.int .u8 (y.toNat : Int))).drew) b (l.set i y) := by
  constructor
  · intro j hj
    rw [List.length_set] at hj
    show ((w.setCell ⟨b, i, none⟩ (.int .u8 (y.toNat : Int)))).cell? _ = _
    rw [getD_lt8 (l := l.set i y) (by simpa using hj)]
    by_cases e : i = j
    · subst e
      rw [World.cell?_setCell_same (h := h.1 _ hi), List.getElem_set_self]
    · rw [World.cell?_setCell_other (h := fun h => e (by injection h)), h.1 j hj, getD_lt8 hj, List.getElem_set_ne e]
  · intro j hj
    rw [List.length_set] at hj
    show ((w.setCell ⟨b, i, none⟩ (.int .u8 (y.toNat : Int)))).frozen? _ = _
    rw [World.frozen?_setCell, h.2 j hj]

theorem rowOf_below {w w' : World} {b : Nat} {l : List UInt8} (h : RowOf w b l) (hb : Below w.heap.size w w') : RowOf w' b l := by
  constructor
  · intro i hi
    rw [hb.cell (p := ⟨b, i, none⟩) (block_lt_of_cell (h.1 i hi))]
    exact h.1 i hi
  · intro i hi
    rw [hb.frozen (p := ⟨b, i, none⟩) (block_lt_of_cell (h.1 i hi))]
    exact h.2 i hi

theorem byte_getD (s : ByteArray) (k : Nat) (h : k < s.size) : s.data.toList.getD k 0 = s[k] := by
  rw [getD_lt8 (by simpa using h)]
  rfl

theorem take_getD (l : List UInt8) (n i : Nat) (h : i < n) : (l.take n).getD i 0 = l.getD i 0 := by
  simp [List.getD, h]

end Go.Proofs.Ythgdanbkngnckaa

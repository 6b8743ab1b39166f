/-
  The walk of the law's own turn: it answers the bytes with the bits of a pattern turned; no condition but sizes.
-/
import Derived.Test.YtfnldhbkablehaaDoorProg
import Derived.Test.YtfnldhbkablehaaDoorMath
import Derived.WalkKit
import Derived.WalkSpells
import Derived.WalkLawsBesides
import Derived.Lib.Hide
import Derived.Shelf.Pu.Clone
import Derived.Deep.QuietTactic
import Derived.BigQuiet
import Derived.Lib.QuietBelow
import Derived.Test.YtfnldhbkablehaaDoorWalks1
import Derived.Lib.ConvBytes
import Derived.Test.YtfnldhbkablehaaDoorSumsWalk
import Derived.Test.YtfnldhbkablehaaDoorMath2
namespace Go.Proofs.YtfnldhbkablehaaDoor
open Go.RowKit

/-- The first cells of block b are these bytes, and may be written. -/
def RowOf (w : World) (b : Nat) (l : List UInt8) : Prop := (∀ i, i < l.length → w.cell? ⟨b, i, none⟩ = some (.int .u8 ((l.getD i 0).toNat : Int))) ∧ (∀ i, i < l.length → w.frozen? ⟨b, i, none⟩ = false)

theorem below_conv (w : World) (s : ByteArray) : Below w.heap.size w (Lib.bytesWorld w 5 s) :=
  Lib.below_freeze ((Below.drew (Below.refl _ w)).alloc (Nat.le_refl _) _) (p := ⟨w.heap.size, _, none⟩) (Nat.le_refl _) 1
theorem rowOf_conv (w : World) (s : ByteArray) : RowOf (Lib.bytesWorld w 5 s) w.heap.size s.data.toList := by
  constructor
  · intro i hi
    exact Lib.bytesWorld_cell w 5 s i (by simpa using hi)
  · intro i hi
    have hC : s.size ≤ (Lib.bytesCells w 5 s).size := by simp [Lib.bytesCells]
    have hi' : i < s.size := by simpa using hi
    unfold World.frozen?
    rw [Lib.bytesWorld_at_new]
    simp
    omega

theorem getD_lt8 {l : List UInt8} {i : Nat} (h : i < l.length) : l.getD i 0 = l[i] := by simp [h]
theorem rowOf_flip {w : World} {b : Nat} {l : List UInt8} (h : RowOf w b l) (pl : Nat) (hp : pl < 8 * l.length) (y : Int) (hy : y = (((l.getD (pl / 8) 0).toNat ^^^ 2 ^ (pl % 8) : Nat) : Int)) :
    RowOf ((w.setCell ⟨b, pl / 8, none⟩ (.int .u8 y)).drew) b (Plain.flip l pl) := by
  have hi : pl / 8 < l.length := by omega
  have hx : (l.getD (pl / 8) 0).toNat ^^^ 2 ^ (pl % 8) < 256 := Plain.xor_lt8 (l.getD (pl / 8) 0).toNat_lt (Plain.pow_lt8 _ (by omega))
  constructor
  · intro i hil
    rw [Plain.flip_length] at hil
    show ((w.setCell ⟨b, pl / 8, none⟩ (.int .u8 y))).cell? _ = _
    by_cases e : pl / 8 = i
    · subst e
      rw [World.cell?_setCell_same (h := h.1 _ hi), hy]
      unfold Plain.flip
      rw [getD_lt8 (l := l.set (pl / 8) _) (by simpa using hi), List.getElem_set_self, Plain.u8_of hx]
    · rw [World.cell?_setCell_other (h := fun h => e (by injection h)), h.1 i hil]
      unfold Plain.flip
      rw [getD_lt8 hil, getD_lt8 (by simpa using hil), List.getElem_set_ne e]
  · intro i hil
    rw [Plain.flip_length] at hil
    show ((w.setCell ⟨b, pl / 8, none⟩ (.int .u8 y))).frozen? _ = _
    rw [World.frozen?_setCell, h.2 i hil]

def TurnRel (s : ByteArray) (a p : Nat) (w : World) (b : Nat) (k : Value) (wr : World) : Prop := ∃ j : Nat, j ≤ 32 ∧ k = .int .i64 j ∧ RowOf wr b (Plain.turnTo s.data.toList a p j) ∧ Below b w wr

theorem rowOf_str {w : World} {b c : Nat} {l : List UInt8} (h : RowOf w b l) : (convert 33 9 (.slice (some ⟨b, 0, none⟩) l.length c)).run Tryd.prog w = .ok (.string ⟨l.toArray⟩) w := by
  have hcv := run_convert_bytes_arg (P := Tryd.prog) w 33 5 Tryd.underlying33 Tryd.underlying5 b 0 l.length c (l.map fun x => (x.toNat : Int)) (by simp) (fun i hi => by
    rw [Nat.zero_add, h.1 i hi]
    congr 2
    simp [List.getD, hi]) 9 Tryd.underlying9
  rw [hcv]
  congr 2
  apply ByteArray.ext
  apply Array.toList_inj.1
  rw [strOfNums_data, List.map_map]
  show _ = l
  conv => rhs; rw [← List.map_id l]
  apply List.map_congr_left
  intro x _
  simp

theorem bit_test (p j : Nat) (hp : p < 4294967296) : bits .and .u32 ((p : Int) / 2 ^ j) 1 = ((p / 2 ^ j % 2 : Nat) : Int) := by
  have e : ((p : Int) / 2 ^ j) = ((p / 2 ^ j : Nat) : Int) := by
    rw [Int.natCast_ediv, Int.natCast_pow]
    rfl
  have hlt : p / 2 ^ j < 4294967296 := Nat.lt_of_le_of_lt (Nat.div_le_self _ _) hp
  have h := u32_and_nat (p / 2 ^ j) 1 hlt (by omega)
  rw [nat_mask1] at h
  rw [e]
  exact h

theorem turn_store {w : World} {b : Nat} {l : List UInt8} {pl i r x : Nat} (h : RowOf w b l) (hp : pl < 8 * l.length) (hi : pl / 8 = i) (hr : pl % 8 = r) (hx : (l.getD i 0).toNat = x) :
    RowOf ((w.setCell ⟨b, i, none⟩ (.int .u8 (bits .xor .u8 (x : Int) (2 ^ r % 256)))).drew) b (Plain.flip l pl) := by
  subst hi hr hx
  have h2 : 2 ^ (pl % 8) < 256 := Plain.pow_lt8 _ (by omega)
  have e : (2 : Int) ^ (pl % 8) % 256 = ((2 ^ (pl % 8) : Nat) : Int) := by
    have e1 : ((2 ^ (pl % 8) : Nat) : Int) = (2 : Int) ^ (pl % 8) := by rw [Int.natCast_pow]; rfl
    rw [← e1]
    generalize 2 ^ (pl % 8) = z at h2
    omega
  exact rowOf_flip h pl hp _ (by rw [e, u8_xor_nat _ _ (l.getD (pl / 8) 0).toNat_lt h2])

set_option maxHeartbeats 2000000 in
theorem turn_walk (s : ByteArray) (at0 p : Nat) (w : World) (hs : s.size ≤ 1000) (hat : at0 ≤ 100000) (hp : p < 4294967296) :
    Calls Tryd.prog 16 #[.string s, .int .i64 at0, .int .u32 p] w fun e w' => e = .returned (.string ⟨(Plain.turnTo s.data.toList at0 p 32).toArray⟩) ∧ Below w.heap.size w w' := by
  have hconv := Lib.run_convert_string_bytes (P := Tryd.prog) w 9 33 5 s Tryd.underlying9 Tryd.underlying33 Tryd.underlying5
  have hr1 := rowOf_conv w s
  have hb1 := below_conv w s
  obtain ⟨w1, hw1⟩ : ∃ w1, Lib.bytesWorld w 5 s = w1 := ⟨_, rfl⟩
  obtain ⟨c, hc⟩ : ∃ c, grownCap w s.size 0 5 = c := ⟨_, rfl⟩
  obtain ⟨b, hb⟩ : ∃ b, w.heap.size = b := ⟨_, rfl⟩
  rw [hw1, hb] at hr1
  rw [hw1, hc, hb] at hconv
  rw [hw1, hb] at hb1
  rw [hb]
  clear hw1 hc hb
  go_enter Tryd.func16, Tryd.ntmps16
  go_wp2_with fail
  clear hconv
  go_loopw [8] (fun k wr => TurnRel s at0 p w b k wr) (fun i _ => 32 - (intOf i).toNat)
  case atStart => exact ⟨0, by omega, rfl, hr1, hb1⟩
  case round =>
    obtain ⟨j, hj, rfl, hrow, hbw⟩ := hrel
    have hlen : (Plain.turnTo s.data.toList at0 p j).length = s.size := by rw [Plain.turnTo_length]; simp
    have HL := Lib.hid hlen; clear hlen
    by_cases hlt : j < 32
    · have hbit := bit_test p j hp
      by_cases h1 : p / 2 ^ j % 2 = 1 ∧ at0 + j < 8 * s.size
      · obtain ⟨h1, hin⟩ := h1
        rw [h1] at hbit
        have H1 := Lib.hid (show p / 2 ^ j % 2 = 1 ∧ at0 + j < 8 * s.size from ⟨h1, hin⟩)
        obtain ⟨i, hi⟩ : ∃ i : Nat, (at0 + j) / 8 = i := ⟨_, rfl⟩
        obtain ⟨r, hr⟩ : ∃ r : Nat, (at0 + j) % 8 = r := ⟨_, rfl⟩
        have hq : ((at0 : Int) + (j : Int)) / 8 = (i : Int) := by omega
        have hrr : ((at0 : Int) + (j : Int)) % 8 = (r : Int) := by omega
        have hi2 : i < s.size := by omega
        have hr2 : r < 8 := by omega
        have hcell := hrow.1 i (by rw [HL.out]; exact hi2)
        have hfr := hrow.2 i (by rw [HL.out]; exact hi2)
        obtain ⟨x, hx⟩ : ∃ x : Nat, ((Plain.turnTo s.data.toList at0 p j).getD i 0).toNat = x := ⟨_, rfl⟩
        rw [hx] at hcell
        have Hx := Lib.hid hx
        have Hi := Lib.hid hi
        have Hr := Lib.hid hr
        clear hi hr h1 hx
        go_wp2_with fail
        go_region
        go_wp2_with fail
        go_roundw
        case rel => exact ⟨j + 1, by omega, by go_num, by unfold Plain.turnTo; rw [if_pos (by simpa using H1.out)]; exact turn_store hrow (by rw [HL.out]; exact H1.out.2) Hi.out Hr.out Hx.out, (hbw.setCell (Nat.le_refl _) _).drew⟩
        case measure => simp [intOf]; omega
      · have H1 := Lib.hid h1
        rcases Nat.mod_two_eq_zero_or_one (p / 2 ^ j) with h0 | h0
        · rw [h0] at hbit
          clear h0 h1
          go_wp2_with fail
          go_roundw
          case rel => exact ⟨j + 1, by omega, by go_num, by unfold Plain.turnTo; rw [if_neg (by simpa using H1.out)]; exact hrow, hbw⟩
          case measure => simp [intOf]; omega
        · have hin : ¬ at0 + j < 8 * s.size := fun h => h1 ⟨h0, h⟩
          rw [h0] at hbit
          clear h0 h1
          go_wp2_with fail
          go_roundw
          case rel => exact ⟨j + 1, by omega, by go_num, by unfold Plain.turnTo; rw [if_neg (by simpa using H1.out)]; exact hrow, hbw⟩
          case measure => simp [intOf]; omega
    · have hcv := rowOf_str (c := c) hrow
      rw [HL.out] at hcv
      obtain rfl : j = 32 := by omega
      go_wp2_with fail
      go_ret
      exact ⟨rfl, hbw⟩

end Go.Proofs.YtfnldhbkablehaaDoor

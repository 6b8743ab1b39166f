/-
  EntryKnown: what is asked of long words.
-/
import Derived.Test.YtfnmmnbndfdpiaaEWorks
import Derived.Test.YtfnmmnbndfdpiaaEFind
import Derived.Test.YtfnmmnbndfdpiaaELive
import Derived.Test.YtfnmmnbndfdpiaaShelf
namespace Go.Proofs.Ytfnmmnbndfdpiaa
open Go.RowKit Go.Sort

def R255 : ByteArray := strO (List.replicate 255 119)
theorem R255_size : R255.size = 255 := by rw [← ba_length]; decide +kernel
def A255 : ByteArray := strO (putT ⟨R255, 4294967295, false⟩).1
theorem A255_put : putT ⟨R255, 4294967295, false⟩ = ((putT ⟨R255, 4294967295, false⟩).1, 0) := by decide +kernel
theorem A255_size : A255.size = 261 := by rw [← ba_length]; decide +kernel
theorem A255_six : ((A255.extract 0 6).toList == [1, 251, 255, 255, 255, 255]) = true := by
  rw [ByteArray.toList_eq, ba_extract]; decide +kernel
theorem R256_word : wordT (R255 ++ ⟨#[119]⟩) = false := by
  unfold wordT; rw [ba_append]; decide +kernel
theorem get_A255 : getT A255.data.toList = (⟨R255, 4294967295, false⟩, 0) := by kernel_rfl
theorem get_R257 : getT ((⟨#[2]⟩ : ByteArray) ++ R255 ++ ⟨#[119]⟩).data.toList = (noE, 7) := by
  rw [ba_append, ba_append]; kernel_rfl
theorem rep255 (w : World) : Calls Try.prog 30 #[.string ⟨#[119]⟩, .int .i64 255] w fun e w' => e = .returned (.string R255) ∧ RowKit.Below w.heap.size w w' := by
  refine (Try.strings_Repeat ⟨#[119]⟩ 255 w (by omega) (by show 1 * 255 ≤ _; omega)).mono ?_
  rintro e w' ⟨rfl, hb⟩
  exact ⟨by rw [show (Lib.repeatL (ByteArray.mk #[119]).data.toList 255) = List.replicate 255 119 by decide +kernel]; rfl, hb⟩

theorem find_lit (l : List Ent) (c : ByteArray) (hr : risingE l = true) (hl : l.length ≤ 1000) (z : Ent) (t : Bool) (hz : bare (foundT l c.data.toList) = z) (ht : isE l c.data.toList = t) (vs : Array Value) (hv : (ents l).toArray = vs) (n : Nat) (hn : l.length = n) (w : World) (g : Nat) (hg : g = w.heap.size) :
    Calls Try.prog 26 #[.slice (some ⟨g, 0, none⟩) n n, .string c] (w.alloc (.cells vs 24)) fun e w' => e = .returned (.tuple #[.agg (enc z).toArray, .bool t]) ∧ RowKit.Below w.heap.size w w' := by
  subst hz ht hv hn hg
  exact (find_any l _ c _ hr (ents_lit l w) (by omega)).mono fun e w' ⟨h1, h2⟩ => ⟨h1, below_lit h2⟩

theorem put_is (x : ByteArray) (n : Nat) (g : Bool) (hn : n < 4294967296) (hx : x.size ≤ 1000000) (l : List UInt8) (c : Nat) (h : putT ⟨x, n, g⟩ = (l, c)) (w : World) :
    Calls Try.prog 8 #[.agg #[.string x, .int .u32 (n : Int), .bool g]] w fun e w' => e = .returned (.tuple #[.string (strO l), .int .i64 (c : Int)]) ∧ RowKit.Below w.heap.size w w' := by
  have := eput_any ⟨x, n, g⟩ w hn hx
  rw [h] at this
  exact this

theorem of_max : ofE (ofT ⟨#[120]⟩ 4294967296) = .tuple #[.agg #[.string ⟨#[120]⟩, .int .u32 4294967295, .bool false], .bool true] := by simp [ofE, ofT, enc]
theorem of_over : ofE (ofT ⟨#[120]⟩ 4294967297) = .tuple #[.agg #[.string ⟨#[]⟩, .int .u32 0, .bool false], .bool false] := by simp [ofE, ofT, enc, noE]

theorem put_R256 : putT ⟨R255 ++ ⟨#[119]⟩, 0, false⟩ = ([], 7) := by unfold putT; rw [if_pos R256_word]
theorem size_R256 : (R255 ++ (⟨#[119]⟩ : ByteArray)).size ≤ 1000000 := by rw [ByteArray.size_append, R255_size]; show 255 + 1 ≤ 1000000; omega
theorem size_R257 : ((⟨#[2]⟩ : ByteArray) ++ R255 ++ (⟨#[119]⟩ : ByteArray)).size ≤ 1000000 := by rw [ByteArray.size_append, ByteArray.size_append, R255_size]; show 1 + 255 + 1 ≤ 1000000; omega
theorem A255_is : strO (putT ⟨R255, 4294967295, false⟩).1 = A255 := rfl
attribute [local irreducible] R255 A255 putT getT ofT wordT

theorem put_as (x : ByteArray) (n : Nat) (g : Bool) (i : Int) (hi : (n : Int) = i) (hn : n < 4294967296) (hx : x.size ≤ 1000000) (l : List UInt8) (c : Nat) (h : putT ⟨x, n, g⟩ = (l, c)) (t : ByteArray) (ht : strO l = t) (w : World) :
    Calls Try.prog 8 #[.agg #[.string x, .int .u32 i, .bool g]] w fun e w' => e = .returned (.tuple #[.string t, .int .i64 (c : Int)]) ∧ RowKit.Below w.heap.size w w' := by
  subst hi ht
  exact put_is x n g hn hx l c h w

theorem get_as (s : ByteArray) (x : ByteArray) (n : Nat) (g : Bool) (i : Int) (hi : (n : Int) = i) (c : Nat) (w : World) (hs : s.size ≤ 1000000) (h : getT s.data.toList = (⟨x, n, g⟩, c)) :
    Calls Try.prog 29 #[.string s, .agg #[.string x, .int .u32 i, .bool g], .int .i64 (c : Int)] w fun e w' => e = .returned (.bool true) ∧ RowKit.Below w.heap.size w w' := by
  subst hi
  exact getLaw_any s ⟨x, n, g⟩ c w hs h

theorem of_as (x : ByteArray) (n : Nat) (i : Int) (hi : (n : Int) = i) (hn : n < 18446744073709551616) (v : Value) (hv : ofE (ofT x n) = v) (w : World) :
    Calls Try.prog 14 #[.string x, .int .u64 i] w fun z w' => z = .returned v ∧ RowKit.Below w.heap.size w w' := by
  subst hi hv
  exact of_any x n w hn

theorem k_q8a : ∀ W, Calls Try.prog 8 #[.agg #[.string R255, .int .u32 4294967295, .bool false]] W fun e w' => e = .returned (.tuple #[.string A255, .int .i64 0]) ∧ RowKit.Below W.heap.size W w' := fun W => put_as R255 4294967295 false 4294967295 (by simp) (by omega) (by rw [R255_size]; omega) _ 0 A255_put A255 A255_is W
theorem k_q8b : ∀ W, Calls Try.prog 8 #[.agg #[.string (R255 ++ ⟨#[119]⟩), .int .u32 0, .bool false]] W fun e w' => e = .returned (.tuple #[.string ⟨#[]⟩, .int .i64 7]) ∧ RowKit.Below W.heap.size W w' := by
  intro W
  have h1 : ((0 : Nat) : Int) = 0 := rfl
  have h2 : strO [] = ⟨#[]⟩ := rfl
  have h3 : (0 : Nat) < 4294967296 := by omega
  have h := put_as (R255 ++ ⟨#[119]⟩) 0 false 0 h1 h3 size_R256 [] 7 put_R256 ⟨#[]⟩ h2 W
  exact h
theorem k_g1 : ∀ W, Calls Try.prog 29 #[.string A255, .agg #[.string R255, .int .u32 4294967295, .bool false], .int .i64 0] W fun e w' => e = .returned (.bool true) ∧ RowKit.Below W.heap.size W w' := fun W => get_as A255 R255 4294967295 false 4294967295 (by simp) 0 W (by rw [A255_size]; omega) get_A255
theorem k_g5 : ∀ W, Calls Try.prog 29 #[.string (⟨#[2]⟩ ++ R255 ++ ⟨#[119]⟩), .agg #[.string ⟨#[]⟩, .int .u32 0, .bool false], .int .i64 7] W fun e w' => e = .returned (.bool true) ∧ RowKit.Below W.heap.size W w' := by
  intro W
  have h1 : ((0 : Nat) : Int) = 0 := rfl
  have h := get_as (⟨#[2]⟩ ++ R255 ++ ⟨#[119]⟩) ⟨#[]⟩ 0 false 0 h1 7 W size_R257 get_R257
  exact h
end Go.Proofs.Ytfnmmnbndfdpiaa

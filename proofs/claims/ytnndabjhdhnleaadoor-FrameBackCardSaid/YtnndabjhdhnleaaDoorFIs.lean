/-
  What Put, Get and Size answer, as it is told.
-/
import Derived.Test.YtnndabjhdhnleaaDoorFWorks
namespace Go.Proofs.YtnndabjhdhnleaaDoor
open Go.RowKit

theorem fput_fits (p F : ByteArray) (hs : p.size ≤ 1000000) (hf : fits p.size = true) (hF' : frameOf p = F) (w : World) (hF : Fours w) :
    Calls Tryd.prog 8 #[.string p] w fun e w' => e = .returned (.tuple #[.string F, .int .i64 0]) ∧ Below w.heap.size w w' := by
  have := fput_any p w hF hs
  rw [hf, hF'] at this
  exact this

theorem fput_not (p : ByteArray) (hs : p.size ≤ 1000000) (hf : fits p.size = false) (w : World) (hF : Fours w) :
    Calls Tryd.prog 8 #[.string p] w fun e w' => e = .returned (.tuple #[.string ⟨#[]⟩, .int .i64 4]) ∧ Below w.heap.size w w' := by
  have := fput_any p w hF hs
  rw [hf] at this
  exact this

theorem fget_is (s : ByteArray) (a : Int) (P : ByteArray) (n x : Int) (e : Nat) (hx : (e : Int) = x) (hs : s.size ≤ 1000000) (h : fget s a = (P, n, e)) (w : World) (hF : Fours w) :
    Calls Tryd.prog 16 #[.string s, .int .i64 a] w fun e w' => e = .returned (.tuple #[.string P, .int .i64 n, .int .i64 x]) ∧ Below w.heap.size w w' := by
  have := fget_any s a w hF hs
  rw [h] at this
  unfold fgotten at this
  dsimp only at this
  rw [hx] at this
  exact this

theorem fsize_is (p : ByteArray) (z : Nat) (hs : p.size ≤ 1000000) (h : (if fits p.size = true then Plain.size p.size + p.size + 4 else 0) = z) (x : Int) (hx : (z : Int) = x) (w : World) :
    Calls Tryd.prog 10 #[.string p] w fun e w' => e = .returned (.int .i64 x) ∧ w = w' := by
  have := fsize_any p w hs
  rw [h, hx] at this
  exact this

end Go.Proofs.YtnndabjhdhnleaaDoor

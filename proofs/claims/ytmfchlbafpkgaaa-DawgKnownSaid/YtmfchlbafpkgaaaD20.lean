/-
  A copy of a map of nodes: the library's contract at this program.
-/
import Derived.Shelf.SlMaps.Clone
import Derived.Ground.SlmcProg
import Derived.Test.YtmfchlbafpkgaaaD07
set_option linter.unusedVariables false
set_option linter.unusedSimpArgs false
namespace Go.Proofs
open Go.Shelf
def Try.cloneN_ren : Go.Shelf.Ren := ⟨fun | 5 => 88 | 7 => 107 | n => n, fun | 23 => 107 | 25 => 5 | 3 => 47 | 4 => 4 | 20 => 20 | n => n, fun | n => n⟩
theorem Try.cloneN : Go.Proofs.SlLaysW.n5 Try.prog Try.cloneN_ren := {
  mixed := by kernel_rfl
  f5 := ⟨Try.f88.name, by decide, Try.func88.trans (congrArg some (by kernel_rfl))⟩
  f7 := Try.func107.trans (congrArg some (by kernel_rfl))
  t4 := Try.underlying4
  a4 := Try.isAgg4
  z4 := Try.sizeOf4
  v4 := Try.zeroValue4
  t20 := Try.underlying20
  a20 := Try.isAgg20
  z20 := Try.sizeOf20
  v20 := Try.zeroValue20
  t23 := Try.underlying107
  a23 := Try.isAgg107
  z23 := Try.sizeOf107
  v23 := Try.zeroValue107 }
end Go.Proofs
namespace Go.Proofs.Ytmfchlbafpkgaaa
open Go.RowKit Go.Shelf

theorem clone_none (w : World) : Calls Try.prog 88 #[.map none] w fun e w' => e = .returned (.map none) ∧ w = w' :=
  (AnyW.maps_Clone_nil Try.cloneN w).mono fun _ _ ⟨h1, h2⟩ => ⟨h1, h2.symm⟩

theorem clone_some {w : World} {m : Nat} {P : UInt8 → Option Nat} (h : HasN w m P) : Calls Try.prog 88 #[.map (some m)] w fun e w' => e = .returned (.map (some w.heap.size)) ∧ HasN w' w.heap.size P ∧ Below w.heap.size w w' := by
  obtain ⟨D, h1, h2, h3⟩ := h
  exact (AnyW.maps_Clone_owns Try.cloneN 5 ptrElem m _ D w h1).mono fun _ _ ⟨k1, k2, _, k4⟩ => ⟨k1, ⟨D, k2, h2, h3⟩, k4⟩
end Go.Proofs.Ytmfchlbafpkgaaa

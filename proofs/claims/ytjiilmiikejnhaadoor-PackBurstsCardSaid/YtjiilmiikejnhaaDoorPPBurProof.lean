/-
  PackBursts answers true for every input, whatever the memory and the schedule; what the program's text lays in its variables is tied to it. No condition.
-/
import Derived.Test.YtjiilmiikejnhaaDoorP36
import Derived.Test.YtjiilmiikejnhaaDoorP35
import Derived.Test.YtjiilmiikejnhaaDoorP30
set_option linter.unusedVariables false
set_option linter.unusedSimpArgs false
namespace Go.Proofs.YtjiilmiikejnhaaDoor
open Go.ChangeShapes Go.WideShapes Go.ChangeAt Go.RowKit
open Go.ChangeMaps (open_string shut_string)

theorem packBursts_walk (va : Value) (la : List DSt) (ia t p : Nat) (W : World) (hF : Fours W ∧ ErrT W) (h1 : StsC W va la) (ok1 : ∀ s ∈ la, s.ok) (hia : ia < 18446744073709551616) (ht : t < 65536) (hp : p < 4294967296) :
    Calls Tryd.prog 6 #[.agg #[va, .int .u64 (ia : Int)], .int .u16 (t : Int), .int .u32 (p : Int)] W fun e w' => e = .returned (.bool true) ∧ Below W.heap.size W w' :=
  bursts_walk hF.1 hF.2 h1 ok1 hia ht hp

set_option maxRecDepth 100000 in
theorem packBursts_lifted (os : Os) (started : os.Started) (H : Type) (enc : TypeId × Value → H) :
    ReturnsInHanded {} Tryd.checked os 6 .any (fun w args => (Rows.packBurstsSpec.pre enc Tryd.prog Tryd.f6 [] false w args ∧ laidMetH Tryd.prog [("errors.errorType", Rows.laid_errors_errorType), ("cedilla/crc.fours", Rows.laid_cedilla_crc_fours)] w) ∧ sizedMet enc Tryd.prog Tryd.f6 (OpenSpec.ofChange Rows.packBurstsSpec) false w args)
      (Rows.packBurstsSpec.post enc Tryd.prog Tryd.f6 false true false false) := by
  refine returnsInHanded_of_change_and (C := Tryd.checked) (X := fun w _ => laidMetH Tryd.prog [("errors.errorType", Rows.laid_errors_errorType), ("cedilla/crc.fours", Rows.laid_cedilla_crc_fours)] w) (fun _ _ _ hh h => h.of_heap hh) own started (by kernel_rfl) Tryd.func6
    (ChangeSpec.witness_shaped (enc := enc) (C := Tryd.checked) (os := os) (X := fun w _ => laidMetH Tryd.prog [("errors.errorType", Rows.laid_errors_errorType), ("cedilla/crc.fours", Rows.laid_cedilla_crc_fours)] w) false (World.doorLaid Tryd.prog 400 os) #[.agg #[.slice none 0 0, .int .u64 0], .int .u16 0, .int .u32 0] 8 rfl (World.shaped_of_RefB (by kernel_rfl) (by kernel_rfl)) (by kernel_rfl) (by kernel_rfl) (by kernel_rfl) (door_met os _)) ?_
  intro W base args ds gs before hval0 hW _ _ hL _
  have hval : ∀ (j : Nat) t v, Tryd.f6.params[j]? = some t → args[j]? = some v → Value.okWide Tryd.prog W .any base t v := hval0
  have hW' := hW
  obtain ⟨p, q, hA0, hV, rfl, hfz, hnd⟩ := hW
  have hA : DataW.TrodAll enc Tryd.prog W 0 (fun _ => true) true Tryd.f6.params.toList args.toList ds p := hA0
  rw [Tryd.params6] at hA hval
  obtain ⟨v0, v1, v2, d0, d1, d2, p0, p1, p2, rfl, rfl, rfl, h0, h1, h2⟩ := trodAll_three hA
  obtain ⟨rfl, rfl⟩ := trodVars_none hV
  have h0k := h0
  obtain ⟨av, al, ai, rfl, has, hak, hab⟩ := open_fst (hval 0 25 v0 rfl rfl) h0
  obtain ⟨t, rfl, rfl, rfl, wt⟩ := open_int Tryd.underlying38 (hval 1 38 v1 rfl rfl) h1
  have bt := bounds_u16 wt
  obtain ⟨t, rfl⟩ : ∃ z : Nat, t = (z : Int) := ⟨t.toNat, by omega⟩
  obtain ⟨p, rfl, rfl, rfl, wp⟩ := open_int Tryd.underlying48 (hval 2 48 v2 rfl rfl) h2
  have bp := bounds_u32 wp
  obtain ⟨p, rfl⟩ : ∃ z : Nat, p = (z : Int) := ⟨p.toNat, by omega⟩
  have hF := both_of_laid hL
  clear hA0 hval0
  refine (packBursts_walk av al ai t p W hF has hak hab (by omega) (by omega)).mono fun e W' ⟨he, hb⟩ => ?_
  subst he
  exact ⟨_, rfl, _, _, _, [], _, [], hW', trodAll_mk1 (shut_bool Tryd.underlying4 true), trodAll_mk3 (Below.trod laidOut (by kernel_rfl) (of_decide_eq_true (by kernel_rfl)) h0k hb (fun y hy => by simpa using hW'.lt y (by simp [hy]))) (shut_int Tryd.underlying38 wt) (shut_int Tryd.underlying48 wp), rfl, hb.frame _, fun h => by cases h⟩

theorem packBursts_holds : Rows.PackBurstsSaid :=
  OpenClaim.holds_of_wide 6 Tryd.f6 rfl rfl rfl rfl rfl rfl rfl ⟨rfl, rfl, rfl, rfl, rfl⟩ rfl rfl rfl rfl rfl (by kernel_rfl) Tryd.func6 (by kernel_rfl)
    (of_decide_eq_true (by kernel_rfl)) (by unfold Func.isWrapper; first | (rw [if_pos (by decide +kernel)]; kernel_rfl) | (rw [if_neg (by decide +kernel)]; exact ⟨rfl, rfl⟩))
    (fun os started H enc _ => packBursts_lifted os started H enc)

theorem packBursts_card : Rows.PackBurstsCardSaid :=
  Claim7.holds_tied_plain_at .later [] [.handle, .data] true (true, "63e17419503251efb8e4795881534c6bcfc43df275e19d4c20919941e3436aa5") true
    packBursts_holds (fun _ h => by cases h) (by kernel_rfl) (fun _ h => by cases h) packBursts_row_tie rfl ⟨rfl, rfl⟩ (by kernel_rfl) rfl
    (fun f fn hf hfn => by
      obtain rfl : f = 6 := Option.some.inj ((show Tryd.prog.funcNamed "cedilla/cedillalaw15.PackBursts" = some 6 by kernel_rfl).symm.trans hf) |>.symm
      obtain rfl : fn = Tryd.f6 := (Option.some.inj (Tryd.func6.symm.trans hfn)).symm
      exact ⟨by kernel_rfl, fun j t ht => by
        rw [Tryd.params6] at ht
        have hm : t ∈ [25, 38, 48] := by simpa using Array.mem_of_getElem? ht
        have hall : ([25, 38, 48].all fun u => !Tryd.prog.wantsStandIn u) = true := by kernel_rfl
        exact (show Tryd.prog.wantsStandIn t = false by simpa using List.all_eq_true.1 hall t hm)⟩)
    (by kernel_rfl)
end Go.Proofs.YtjiilmiikejnhaaDoor

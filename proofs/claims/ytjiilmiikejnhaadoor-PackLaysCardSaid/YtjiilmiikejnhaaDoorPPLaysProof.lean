/-
  PackLays answers true for every input, whatever the memory and the schedule; what the program's text lays in its variables is tied to it. No condition.
-/
import Derived.Test.YtjiilmiikejnhaaDoorP35
import Derived.Test.YtjiilmiikejnhaaDoorP40
import Derived.Test.YtjiilmiikejnhaaDoorP41
import Derived.Test.YtjiilmiikejnhaaDoorP42
import Derived.Test.YtjiilmiikejnhaaDoorP43
set_option linter.unusedVariables false
set_option linter.unusedSimpArgs false
namespace Go.Proofs.YtjiilmiikejnhaaDoor
open Go.ChangeShapes Go.WideShapes Go.ChangeAt Go.RowKit
open Go.ChangeMaps (open_string shut_string)

theorem packLays_walk (va : Value) (la : List DSt) (ia : Nat) (x : Int) (l : List Ev.Draft) (vd : Value) (W : World) (hF : Fours W ∧ ErrT W) (h1 : StsC W va la) (ok1 : ∀ s ∈ la, s.ok) (hia : ia < 18446744073709551616) (_hx1 : -9223372036854775808 ≤ x) (_hx2 : x ≤ 9223372036854775807) (hl : Ev.Drafts W vd l) (hn : l.length ≤ 9223372036854775807) (hw : ∀ d ∈ l, d.weight < 4294967296) :
    Calls Tryd.prog 3 #[.agg #[va, .int .u64 (ia : Int)], .int .i64 x, vd] W fun e w' => e = .returned (.bool true) ∧ Below W.heap.size W w' :=
  lays_walk hF.1 hF.2 h1 ok1 hia fun _ hb => (of_mid (hl.below hb) hn hw).mono fun _ _ h => h

set_option maxRecDepth 100000 in
theorem packLays_lifted (os : Os) (started : os.Started) (H : Type) (enc : TypeId × Value → H) :
    ReturnsInHanded {} Tryd.checked os 3 .any (fun w args => (Rows.packLaysSpec.pre enc Tryd.prog Tryd.f3 [] false w args ∧ laidMetH Tryd.prog [("errors.errorType", Rows.laid_errors_errorType), ("cedilla/crc.fours", Rows.laid_cedilla_crc_fours)] w) ∧ sizedMet enc Tryd.prog Tryd.f3 (OpenSpec.ofChange Rows.packLaysSpec) false w args)
      (Rows.packLaysSpec.post enc Tryd.prog Tryd.f3 false true false false) := by
  refine returnsInHanded_of_change_and (C := Tryd.checked) (X := fun w _ => laidMetH Tryd.prog [("errors.errorType", Rows.laid_errors_errorType), ("cedilla/crc.fours", Rows.laid_cedilla_crc_fours)] w) (fun _ _ _ hh h => h.of_heap hh) ownDoor started (by kernel_rfl) Tryd.func3
    (ChangeSpec.witness_shaped (enc := enc) (C := Tryd.checked) (os := os) (X := fun w _ => laidMetH Tryd.prog [("errors.errorType", Rows.laid_errors_errorType), ("cedilla/crc.fours", Rows.laid_cedilla_crc_fours)] w) false (World.doorLaid Tryd.prog 400 os) #[.agg #[.slice none 0 0, .int .u64 0], .int .i64 0, .slice none 0 0] 8 rfl (World.shaped_of_RefB (by kernel_rfl) (by kernel_rfl)) (by kernel_rfl) (by kernel_rfl) (by kernel_rfl) (door_met os _)) ?_
  intro W base args ds gs before hval0 hW _ _ hL _
  have hval : ∀ (j : Nat) t v, Tryd.f3.params[j]? = some t → args[j]? = some v → Value.okWide Tryd.prog W .any base t v := hval0
  have hW' := hW
  obtain ⟨p, q, hA0, hV, rfl, hfz, hnd⟩ := hW
  have hA : DataW.TrodAll enc Tryd.prog W 0 (fun _ => true) true Tryd.f3.params.toList args.toList ds p := hA0
  rw [Tryd.params3] at hA hval
  obtain ⟨v0, v1, v2, d0, d1, d2, p0, p1, p2, rfl, rfl, rfl, h0, h1, h2⟩ := trodAll_three hA
  obtain ⟨rfl, rfl⟩ := trodVars_none hV
  have h0k := h0
  obtain ⟨rawv, rawl, rawi, rfl, hraws, hrawk, hrawb⟩ := open_fst (hval 0 25 v0 rfl rfl) h0
  obtain ⟨x, rfl, rfl, rfl, wx⟩ := open_int Tryd.underlying3 (hval 1 3 v1 rfl rfl) h1
  have bx := bounds_i64 wx
  obtain ⟨la, ln, lc, rfl⟩ := okWide_slice Tryd.underlying26 (hval 2 26 v2 rfl rfl)
  have h2k := h2
  obtain ⟨fuel2, hf2⟩ := h2
  obtain ⟨l, rfl, hll, hlw, hls⟩ := Ev.drafts_of_trod hf2
  have hF := both_of_laid hL
  clear hA0 hval0
  refine (packLays_walk rawv rawl rawi x l _ W hF hraws hrawk hrawb (by omega) (by omega) hls hll hlw).mono fun e W' ⟨he, hb⟩ => ?_
  subst he
  exact ⟨_, rfl, _, _, _, [], _, [], hW', trodAll_mk1 (shut_bool Tryd.underlying4 true), trodAll_mk3 (Below.trod laidOut (by kernel_rfl) (of_decide_eq_true (by kernel_rfl)) h0k hb (fun y hy => by simpa using hW'.lt y (by simp [hy]))) (shut_int Tryd.underlying3 wx) (Below.trod laidOut (by kernel_rfl) (of_decide_eq_true (by kernel_rfl)) h2k hb (fun y hy => by simpa using hW'.lt y (by simp [hy]))), rfl, hb.frame _, fun h => by cases h⟩

theorem packLays_holds : Rows.PackLaysSaid :=
  OpenClaim.holds_of_wide 3 Tryd.f3 rfl rfl rfl rfl rfl rfl rfl ⟨rfl, rfl, rfl, rfl, rfl⟩ rfl rfl rfl rfl rfl (by kernel_rfl) Tryd.func3 (by kernel_rfl)
    (of_decide_eq_true (by kernel_rfl)) (by unfold Func.isWrapper; first | (rw [if_pos (by decide +kernel)]; kernel_rfl) | (rw [if_neg (by decide +kernel)]; exact ⟨rfl, rfl⟩))
    (fun os started H enc _ => packLays_lifted os started H enc)

theorem packLays_card : Rows.PackLaysCardSaid :=
  Claim7.holds_tied_plain_at .later [] [.handle, .data] true (true, "63e17419503251efb8e4795881534c6bcfc43df275e19d4c20919941e3436aa5") true
    packLays_holds (fun _ h => by cases h) (by kernel_rfl) (fun _ h => by cases h) packLays_row_tie rfl ⟨rfl, rfl⟩ (by kernel_rfl) rfl
    (fun f fn hf hfn => by
      obtain rfl : f = 3 := Option.some.inj ((show Tryd.prog.funcNamed "cedilla/cedillalaw15.PackLays" = some 3 by kernel_rfl).symm.trans hf) |>.symm
      obtain rfl : fn = Tryd.f3 := (Option.some.inj (Tryd.func3.symm.trans hfn)).symm
      exact ⟨by kernel_rfl, fun j t ht => by
        rw [Tryd.params3] at ht
        have hm : t ∈ [25, 3, 26] := by simpa using Array.mem_of_getElem? ht
        have hall : ([25, 3, 26].all fun u => !Tryd.prog.wantsStandIn u) = true := by kernel_rfl
        exact (show Tryd.prog.wantsStandIn t = false by simpa using List.all_eq_true.1 hall t hm)⟩)
    (by kernel_rfl)
end Go.Proofs.YtjiilmiikejnhaaDoor

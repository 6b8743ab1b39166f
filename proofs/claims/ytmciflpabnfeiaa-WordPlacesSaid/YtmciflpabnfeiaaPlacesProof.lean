/-
  WordPlaces answers true for every input, whatever the memory and the schedule. No condition.
-/
import Derived.Test.YtmciflpabnfeiaaWPlaces
import Derived.Test.YtmciflpabnfeiaaWOpens
import Derived.Test.YtmciflpabnfeiaaRows
import Derived.ProofKit
import Derived.OpenShut
namespace Go.Proofs.Ytmciflpabnfeiaa
open Go.ChangeShapes Go.WideShapes Go.ChangeAt Go.RowKit
open Go.ChangeMaps (open_string shut_string)

theorem places_all (l : List ByteArray) (ad : Option Addr) (n c f : Nat) (W : World) (hll : l.length = n) (hlc : n ≤ c) (hlm : c ≤ 9223372036854775807) (hlz : ∀ s ∈ l, s.size ≤ 9223372036854775807) (hls : Strs W (.slice ad n c) l) (hf : f < 256) :
    Calls Try.prog 6 #[.slice ad n c, .int .u8 (f : Int)] W fun e w' => e = .returned (.bool true) ∧ Below W.heap.size W w' :=
  places_any l _ f W hls hlz (by omega) hf

set_option maxRecDepth 100000 in
theorem wordPlaces_lifted (os : Os) (started : os.Started) (H : Type) (enc : TypeId × Value → H) :
    ReturnsInHanded {} Try.checked os 6 .any (Rows.wordPlacesSpec.pre6 enc Try.prog Try.f6 Rows.wordPlacesRow.domain false) (Rows.wordPlacesSpec.post enc Try.prog Try.f6 false true false false) := by
  refine returnsInHanded_of_change (C := Try.checked) (show ownKnob Try.prog.godebug = none by kernel_rfl) started (by kernel_rfl) Try.func6
    (ChangeSpec.witness6 (enc := enc) (C := Try.checked) false ⟨#[], #[.slice none 0 0, .int .u8 0], []⟩ 8 (by kernel_rfl) (by kernel_rfl) (by kernel_rfl) (by kernel_rfl)) ?_
  intro W base args ds gs before hval0 hW _ _
  have hval : ∀ (j : Nat) t v, Try.f6.params[j]? = some t → args[j]? = some v → Value.okWide Try.prog W .any base t v := hval0
  have hW' := hW
  obtain ⟨p, q, hA0, hV, rfl, hfz, hnd⟩ := hW
  have hA : DataW.TrodAll enc Try.prog W 0 (fun _ => true) true Try.f6.params.toList args.toList ds p := hA0
  rw [Try.params6] at hA hval
  obtain ⟨v0, v1, d0, d1, p0, p1, rfl, rfl, rfl, h0, h1⟩ := trodAll_two hA
  obtain ⟨rfl, rfl⟩ := trodVars_none hV
  obtain ⟨la, ln, lc, rfl⟩ := okWide_slice Try.underlying22 (hval 0 22 v0 rfl rfl)
  have h0k := h0
  obtain ⟨fuel0, hf0⟩ := h0
  obtain ⟨l, hll, hlc, hlm, hlz, hls⟩ := strs_of_trod hf0
  obtain ⟨f, rfl, rfl, rfl, wf⟩ := open_int Try.underlying5 (hval 1 5 v1 rfl rfl) h1
  have bf := bounds_u8 wf
  obtain ⟨f, rfl⟩ : ∃ z : Nat, f = (z : Int) := ⟨f.toNat, by omega⟩
  clear hA0 hval0
  refine (places_all l la ln lc f W hll hlc hlm hlz hls (by omega)).mono fun e W' ⟨he, hb⟩ => ?_
  subst he
  exact ⟨_, rfl, _, _, _, [], _, [], hW', trodAll_mk1 (shut_bool Try.underlying4 true), trodAll_mk2 (Below.trod laidOut (by kernel_rfl) (of_decide_eq_true (by kernel_rfl)) h0k hb (fun y hy => by simpa using hW'.lt y (by simp [hy]))) (shut_int Try.underlying5 wf), rfl, hb.frame _, fun h => by cases h⟩

theorem wordPlaces_holds : Rows.WordPlacesSaid :=
  OpenClaim.holds_of_wide 6 Try.f6 rfl rfl rfl rfl rfl rfl rfl ⟨rfl, rfl, rfl, rfl, rfl⟩ rfl rfl rfl rfl rfl (by kernel_rfl) Try.func6 (by kernel_rfl)
    (of_decide_eq_true (by kernel_rfl)) (by unfold Func.isWrapper; first | (rw [if_pos (by decide +kernel)]; kernel_rfl) | (rw [if_neg (by decide +kernel)]; exact ⟨rfl, rfl⟩))
    (fun os started H enc _ => wordPlaces_lifted os started H enc)
end Go.Proofs.Ytmciflpabnfeiaa

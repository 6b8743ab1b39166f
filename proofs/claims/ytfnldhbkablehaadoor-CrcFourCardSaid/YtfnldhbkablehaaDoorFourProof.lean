/-
  CrcFour answers true for every two texts and all four bytes twice, whatever the memory and the schedule; the table that the program's text lays is tied to it. No condition.
-/
import Derived.Test.YtfnldhbkablehaaDoorBase
import Derived.Test.YtfnldhbkablehaaDoorFourWalk
namespace Go.Proofs.YtfnldhbkablehaaDoor
open Go.ChangeShapes Go.WideShapes Go.ChangeAt Go.RowKit
open Go.ChangeMaps (open_string shut_string)

theorem cells35 : Tryd.prog.cellsOf 35 = 4 := by kernel_rfl
theorem cells36 : Tryd.prog.cellsOf 36 = 8 := by kernel_rfl
theorem cells5 : Tryd.prog.cellsOf 5 = 1 := by kernel_rfl

theorem byte_cell {H : Type} {enc : TypeId × Value → H} {W : World} {sp : Nat → Bool} {held : Bool} {m : Nat} {c : Value} {x : Option (DataW H × List MemPlace)} (hx : x.isSome = true) (h : DataW.trod enc Tryd.prog W 0 sp held m 5 [c] = x) : ∃ a : Nat, c = .int .u8 (a : Int) := by
  obtain ⟨y, rfl⟩ := Option.isSome_iff_exists.1 hx
  obtain ⟨z, e1, _, wz⟩ := DataW.trod_int Tryd.underlying5 h
  have hz := bounds_u8 wz
  refine ⟨z.toNat, ?_⟩
  have e2 : c = .int .u8 z := by simpa using e1
  rw [e2]
  congr 1
  omega

theorem open_four {H : Type} {enc : TypeId × Value → H} {W : World} {sp : Nat → Bool} {held : Bool} {m : Nat} {c0 c1 c2 c3 : Value} {x : Option (DataW H × List MemPlace)} (hx : x.isSome = true) (h : DataW.trod enc Tryd.prog W 0 sp held m 35 [c0, c1, c2, c3] = x) :
    ∃ a0 a1 a2 a3 : Nat, c0 = .int .u8 (a0 : Int) ∧ c1 = .int .u8 (a1 : Int) ∧ c2 = .int .u8 (a2 : Int) ∧ c3 = .int .u8 (a3 : Int) := by
  obtain ⟨y, rfl⟩ := Option.isSome_iff_exists.1 hx
  obtain ⟨xs, n, _, _, _, hl, hel⟩ := DataW.trod_array Tryd.underlying35 h
  rw [cells5] at hel
  have g : ∀ i, i < 4 → (xs[i]?).isSome = true := fun i hi => by simp [hl, hi]
  obtain ⟨a0, e0⟩ := byte_cell (g 0 (by omega)) (by simpa using hel 0 (by omega))
  obtain ⟨a1, e1⟩ := byte_cell (g 1 (by omega)) (by simpa using hel 1 (by omega))
  obtain ⟨a2, e2⟩ := byte_cell (g 2 (by omega)) (by simpa using hel 2 (by omega))
  obtain ⟨a3, e3⟩ := byte_cell (g 3 (by omega)) (by simpa using hel 3 (by omega))
  exact ⟨a0, a1, a2, a3, e0, e1, e2, e3⟩

theorem open_pair {H : Type} {enc : TypeId × Value → H} {W : World} {base : Nat} {sp : Nat → Bool} {held : Bool} {v : Value} {d : DataW H} {p : List MemPlace} (hv : Value.okWide Tryd.prog W .any base 36 v) (h : DataW.Trod enc Tryd.prog W 0 sp held 36 v d p) :
    ∃ a0 a1 a2 a3 b0 b1 b2 b3 : Nat, v = .agg #[.int .u8 a0, .int .u8 a1, .int .u8 a2, .int .u8 a3, .int .u8 b0, .int .u8 b1, .int .u8 b2, .int .u8 b3] := by
  simp only [Value.okWide, Tryd.underlying36] at hv
  obtain ⟨cs, rfl, hsz, _⟩ := hv
  rw [cells36] at hsz
  obtain ⟨l⟩ := cs
  match l, hsz with
  | [c0, c1, c2, c3, c4, c5, c6, c7], _ =>
    obtain ⟨fuel, hf⟩ := h
    obtain ⟨xs, n, _, _, _, hl, hel⟩ := DataW.trod_array Tryd.underlying36 hf
    rw [cells35] at hel
    have g : ∀ i, i < 2 → (xs[i]?).isSome = true := fun i hi => by simp [hl, hi]
    obtain ⟨a0, a1, a2, a3, rfl, rfl, rfl, rfl⟩ := open_four (g 0 (by omega)) (by simpa [Value.cells] using hel 0 (by omega))
    obtain ⟨b0, b1, b2, b3, rfl, rfl, rfl, rfl⟩ := open_four (g 1 (by omega)) (by simpa [Value.cells] using hel 1 (by omega))
    exact ⟨a0, a1, a2, a3, b0, b1, b2, b3, rfl⟩

set_option maxRecDepth 100000 in
theorem four_lifted (os : Os) (started : os.Started) (H : Type) (enc : TypeId × Value → H) :
    ReturnsInHanded {} Tryd.checked os 7 .any (fun w args => (Rows.crcFourSpec.pre enc Tryd.prog Tryd.f7 [] false w args ∧ laidMetH Tryd.prog [("cedilla/crc.fours", Rows.laid_cedilla_crc_fours)] w) ∧ sizedMet enc Tryd.prog Tryd.f7 (OpenSpec.ofChange Rows.crcFourSpec) false w args)
      (Rows.crcFourSpec.post enc Tryd.prog Tryd.f7 false true false false) := by
  refine returnsInHanded_of_change_and (C := Tryd.checked) (X := fun w _ => laidMetH Tryd.prog [("cedilla/crc.fours", Rows.laid_cedilla_crc_fours)] w) (fun _ _ _ hh h => h.of_heap hh) own started (by kernel_rfl) Tryd.func7
    (ChangeSpec.witness_shaped (enc := enc) (C := Tryd.checked) (os := os) (X := fun w _ => laidMetH Tryd.prog [("cedilla/crc.fours", Rows.laid_cedilla_crc_fours)] w) false (World.doorLaid Tryd.prog 400 os) #[.string ⟨#[]⟩, .string ⟨#[]⟩, .agg #[.int .u8 0, .int .u8 0, .int .u8 0, .int .u8 0, .int .u8 0, .int .u8 0, .int .u8 0, .int .u8 0]] 8 rfl (World.shaped_of_RefB (by kernel_rfl) (by kernel_rfl)) (by kernel_rfl) (by kernel_rfl) (by kernel_rfl) (door_met os _)) ?_
  intro W base args ds gs before hval0 hW _ _ hL _
  have hval : ∀ (j : Nat) t v, Tryd.f7.params[j]? = some t → args[j]? = some v → Value.okWide Tryd.prog W .any base t v := hval0
  have hW' := hW
  obtain ⟨p, q, hA0, hV, rfl, hfz, hnd⟩ := hW
  have hA : DataW.TrodAll enc Tryd.prog W 0 (fun _ => true) true Tryd.f7.params.toList args.toList ds p := hA0
  rw [Tryd.params7] at hA hval
  obtain ⟨v0, v1, v2, d0, d1, d2, p0, p1, p2, rfl, rfl, rfl, h0, h1, h2⟩ := trodAll_three hA
  obtain ⟨rfl, rfl⟩ := trodVars_none hV
  obtain ⟨s, rfl, rfl, rfl, hs⟩ := open_string Tryd.underlying9 (hval 0 9 v0 rfl rfl) h0
  obtain ⟨r, rfl, rfl, rfl, hr⟩ := open_string Tryd.underlying9 (hval 1 9 v1 rfl rfl) h1
  obtain ⟨a0, a1, a2, a3, b0, b1, b2, b3, rfl⟩ := open_pair (hval 2 36 v2 rfl rfl) h2
  have hF := fours_of_laid hL
  clear hA0 hval0
  refine (four_law s r a0 a1 a2 a3 b0 b1 b2 b3 W hF).mono fun e W' ⟨he, hb⟩ => ?_
  subst he
  have hx := Below.trod (W' := W') (by kernel_rfl) (by kernel_rfl) (of_decide_eq_true (by kernel_rfl)) h2 hb (fun x hx => hW'.lt x (by simpa using hx))
  exact ⟨_, rfl, _, _, _, [], _, [], hW', trodAll_mk1 (shut_bool Tryd.underlying4 true), trodAll_mk3 (shut_string Tryd.underlying9 hs) (shut_string Tryd.underlying9 hr) hx, rfl, hb.frame _, fun h => by cases h⟩

theorem four_holds : Rows.CrcFourSaid :=
  OpenClaim.holds_of_wide 7 Tryd.f7 rfl rfl rfl rfl rfl rfl rfl ⟨rfl, rfl, rfl, rfl, rfl⟩ rfl rfl rfl rfl rfl (by kernel_rfl) Tryd.func7 (by kernel_rfl)
    (of_decide_eq_true (by kernel_rfl)) (by unfold Func.isWrapper; first | (rw [if_pos (by decide +kernel)]; kernel_rfl) | (rw [if_neg (by decide +kernel)]; exact ⟨rfl, rfl⟩))
    (fun os started H enc _ => four_lifted os started H enc)

theorem four_card : Rows.CrcFourCardSaid :=
  Claim7.holds_tied_plain_at .later [] [.data] true (true, "6a90ee36910a9b21f6bf552f42ae6c50453c46ab306ecbd07f292afc580715d4") false
    four_holds (fun _ h => by cases h) (by kernel_rfl) (fun _ h => by cases h) crcFour_row_tie rfl ⟨rfl, rfl⟩ (by kernel_rfl) rfl
    (fun f fn hf hfn => by
      obtain rfl : f = 7 := Option.some.inj ((show Tryd.prog.funcNamed "cedilla/cedillalaw01.CrcFour" = some 7 by kernel_rfl).symm.trans hf) |>.symm
      obtain rfl : fn = Tryd.f7 := (Option.some.inj (Tryd.func7.symm.trans hfn)).symm
      exact ⟨by kernel_rfl, fun j t ht => by
        rw [Tryd.params7] at ht
        have hm : t ∈ [9, 9, 36] := by simpa using Array.mem_of_getElem? ht
        have hall : ([9, 9, 36].all fun u => !Tryd.prog.wantsStandIn u) = true := by kernel_rfl
        exact (show Tryd.prog.wantsStandIn t = false by simpa using List.all_eq_true.1 hall t hm)⟩)
    (by kernel_rfl)
end Go.Proofs.YtfnldhbkablehaaDoor

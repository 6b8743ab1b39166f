/-
  The closures that read: the magic, the end.
-/
import Derived.Test.YtjiilmiikejnhaaDoorP10
import Derived.Test.YtjiilmiikejnhaaDoorP09
import Derived.Deep.RegionWith
import Derived.BigQuiet
set_option linter.unusedVariables false
set_option linter.unusedSimpArgs false
namespace Go.Proofs.YtjiilmiikejnhaaDoor
open Go.RowKit Go.Shelf Said

/-- Where the reader is, as it stands in memory. -/
def posOf (w : World) (pa : Nat) : Nat := match w.cell? ⟨pa, 0, none⟩ with
  | some (.int _ n) => n.toNat
  | _ => 0
theorem Rdr.posOf {w : World} {pa pm ps a : Nat} {s : ByteArray} (h : Rdr w pa pm ps s a) : posOf w pa = a := by
  unfold Go.Proofs.YtjiilmiikejnhaaDoor.posOf
  rw [h.at0]
  simp

theorem must_ok' {w : World} {pa : Nat} (c : Int) :
    Calls Tryd.prog 79 #[.bool true, .int .i64 c, .pointer (some ⟨pa, 0, none⟩)] w fun e w' => e = .returned (.tuple #[]) ∧ w = w' :=
  (must_ok c).mono fun e w' ⟨h1, h2⟩ => ⟨h1, h2.symm⟩
theorem magic_at {k : Nat} (h3 : k < (⟨#[67, 83, 1]⟩ : ByteArray).size) : (⟨#[67, 83, 1]⟩ : ByteArray)[k] = magicL.getD k 0 := by
  have h3' : k < 3 := h3
  match k, h3' with
  | 0, _ => rfl
  | 1, _ => rfl
  | 2, _ => rfl
theorem magic_yes {s : ByteArray} {k : Nat} (h : k < s.size) (h3 : k < (⟨#[67, 83, 1]⟩ : ByteArray).size) (he : s.data.toList[k]'(by rw [ba_size]; exact h) = magicL.getD k 0) : ((s[k].toNat : Int) == ((⟨#[67, 83, 1]⟩ : ByteArray)[k].toNat : Int)) = true := by
  have : s[k] = magicL.getD k 0 := he
  rw [magic_at h3, this]
  simp
theorem magic_no {s : ByteArray} {k : Nat} (h : k < s.size) (h3 : k < (⟨#[67, 83, 1]⟩ : ByteArray).size) (he : s.data.toList[k]'(by rw [ba_size]; exact h) ≠ magicL.getD k 0) : ((s[k].toNat : Int) == ((⟨#[67, 83, 1]⟩ : ByteArray)[k].toNat : Int)) = false := by
  have : s[k] ≠ magicL.getD k 0 := he
  rw [magic_at h3]
  simp only [beq_eq_false_iff_ne, ne_eq]
  intro e
  exact this (UInt8.toNat_inj.1 (by omega))
/-- What is left behind the magic. -/
def Begun (w : World) (pa pm ps : Nat) (s : ByteArray) (r : Option (Nat × Nat)) (e : Ending) (w' : World) : Prop :=
  match r with
  | none => e = .returned (.tuple #[]) ∧ Rdr w' pa pm ps s 3 ∧ Kp (fun g => g = pa) w w'
  | some (c, p) => Faulted w pa c p e w'
theorem magR_step {s : List UInt8} {k : Nat} (hk : k < 3) (hl : k < s.length) (he : s[k] = magicL.getD k 0) : magR s (4 - k) k = magR s (4 - (k + 1)) (k + 1) := by
  rw [show 4 - k = (4 - (k + 1)) + 1 by omega]
  show (if k < 3 then _ else _) = _
  rw [if_pos hk, dif_pos hl, if_pos he]
theorem magR_kind {s : List UInt8} {k : Nat} (hk : k < 3) (hl : k < s.length) (he : s[k] ≠ magicL.getD k 0) : magR s (4 - k) k = some (6, k) := by
  rw [show 4 - k = (4 - (k + 1)) + 1 by omega]
  show (if k < 3 then _ else _) = _
  rw [if_pos hk, dif_pos hl, if_neg he]
theorem magR_short {s : List UInt8} {k : Nat} (hk : k < 3) (hl : ¬ k < s.length) : magR s (4 - k) k = some (3, k) := by
  rw [show 4 - k = (4 - (k + 1)) + 1 by omega]
  show (if k < 3 then _ else _) = _
  rw [if_pos hk, dif_neg hl]
theorem magR_done (s : List UInt8) : magR s (4 - 3) 3 = none := rfl

set_option maxHeartbeats 1000000 in
set_option maxRecDepth 100000 in
theorem end_any {w : World} {pa pm ps a : Nat} {s : ByteArray} (h : Rdr w pa pm ps s a) :
    Calls Tryd.prog 84 #[.pointer (some ⟨pm, 0, none⟩), .pointer (some ⟨pa, 0, none⟩), .pointer (some ⟨ps, 0, none⟩)] w fun e w' => if a = s.size then e = .returned (.tuple #[]) ∧ w' = w else Faulted w pa 4 a e w' := by
  have k0 := h.at0
  have k1 := h.at1
  have k2 := h.at2
  have MN : Hid (Calls Tryd.prog 79 #[.bool false, .int .i64 4, .pointer (some ⟨pa, 0, none⟩)] w (Faulted w pa 4 a)) := Lib.hid (must_no h 4)
  clear h
  by_cases he : a = s.size
  · simp only [he, if_true]
    subst he
    have e0 : ((s.size : Int) == (s.size : Int)) = true := by simp
    go_enter Tryd.func84, Tryd.ntmps84
    go_wp2_with (go_at_call 79; (with_reducible refine (must_ok _).mono ?_); rintro e' w1 ⟨rfl, rfl⟩)
    go_end0
    exact ⟨rfl, rfl⟩
  · simp only [he, if_false]
    have e0 : ((a : Int) == (s.size : Int)) = false := by simp; omega
    go_enter Tryd.func84, Tryd.ntmps84
    go_wp2_with (go_at_call 79; (with_reducible refine MN.out.mono ?_); rintro e' w1 ⟨bf, rfl, h1, h2, h3⟩)
    exact ⟨rfl, bf, rfl, h1, h2, h3⟩

set_option maxHeartbeats 2000000 in
set_option maxRecDepth 100000 in
theorem begin_any {w : World} {pa pm ps : Nat} {s : ByteArray} (h : Rdr w pa pm ps s 0) (hs : s.size ≤ 1000000000) :
    Calls Tryd.prog 80 #[.pointer (some ⟨pa, 0, none⟩), .pointer (some ⟨pm, 0, none⟩), .pointer (some ⟨ps, 0, none⟩)] w (Begun w pa pm ps s (magR s.data.toList 4 0)) := by
  have HR0 := Lib.hid h
  clear h
  go_enter Tryd.func80, Tryd.ntmps80
  go_wp2
  go_loopw [] (fun wr => ∃ k : Nat, k ≤ 3 ∧ Hid (Rdr wr pa pm ps s k ∧ Kp (fun g => g = pa) w wr ∧ magR s.data.toList 4 0 = magR s.data.toList (4 - k) k)) (fun wr => 3 - posOf wr pa)
  case atStart => exact ⟨0, by omega, Lib.hid ⟨HR0.out, Kp.refl _ _, rfl⟩⟩
  case round =>
    obtain ⟨k, hk, HR⟩ := hrel
    have k0 := HR.out.1.at0
    have k1 := HR.out.1.at1
    have k2 := HR.out.1.at2
    have f0 := HR.out.1.free 0
    by_cases h3 : k < 3
    · have e3 : decide ((k : Int) < 3) = true := by simp; omega
      have i3 : (k : Int) < 3 := by omega
      by_cases hlt : k < s.size
      · have e0 : decide ((k : Int) < (s.size : Int)) = true := by simp; omega
        have i1 : (k : Int) < (s.size : Int) := by omega
        have hkl : k < s.data.toList.length := by rw [ba_size]; exact hlt
        by_cases he : s.data.toList[k] = magicL.getD k 0
        · have HS := Lib.hid (HR.out.2.2.trans (magR_step h3 hkl he))
          have hb := magic_yes hlt (show k < (⟨#[67, 83, 1]⟩ : ByteArray).size from h3) he
          clear he
          go_wp2_with (go_at_call 79; (with_reducible refine (must_ok _).mono ?_); rintro e' w1 ⟨rfl, rfl⟩)
          go_quiet ((go_at_call 79; exact Calls.quiet_of_same (must_ok (pa := pa) 6)))
          have HB2 : Hid (Below w1.heap.size w1 (w1.drewN nq)) := Lib.hid (below_drewN (Below.refl _ w1) nq)
          generalize w1.drewN nq = w2 at HB2 ⊢
          have HM2 := Lib.hid (HR.out.1.below HB2.out)
          have n0 := HM2.out.at0
          have n1 := HM2.out.free 0
          have ht := HM2.out.to (k + 1)
          rw [show ((k + 1 : Nat) : Int) = (k : Int) + 1 by omega] at ht
          have HN := Lib.hid ht
          clear ht
          go_wp2
          refine ⟨⟨k + 1, by omega, Lib.hid ⟨HN.out.1, HR.out.2.1.trans ((Kp.below HB2.out).trans HN.out.2 (fun g e => .inl e)) (fun g e => .inl e), HS.out⟩⟩, ?_⟩
          rw [HN.out.1.posOf, HR.out.1.posOf]
          omega
        · have hb := magic_no hlt (show k < (⟨#[67, 83, 1]⟩ : ByteArray).size from h3) he
          have hr := HR.out.2.2.trans (magR_kind h3 hkl he)
          rw [hr]
          have MN : Hid (∀ W, Below wr.heap.size wr W → Calls Tryd.prog 79 #[.bool false, .int .i64 6, .pointer (some ⟨pa, 0, none⟩)] W (Faulted W pa 6 k)) := Lib.hid fun W hW => must_no (HR.out.1.below hW) 6
          clear he hr
          go_wp2_with (go_at_call 79; (with_reducible refine (must_ok _).mono ?_); rintro e' w1 ⟨rfl, rfl⟩)
          have hi3 : k < (⟨#[67, 83, 1]⟩ : ByteArray).size := h3
          refine Said.region_panics (by kernel_rfl) 7 [] _ rfl rfl (by kernel_rfl) (by kernel_rfl) (by kernel_rfl) [.is (.func (.func 79) #[] #[.pointer (some ⟨pa, 0, none⟩)]), .is (.string s), .is (.int .i64 (k : Int)), .is (.int .u8 (s[k].toNat : Int)), .is (.int .i64 (k : Int)), .is (.int .u8 ((⟨#[67, 83, 1]⟩ : ByteArray)[k].toNat : Int)), .is (.bool false)] (by simp) ?_ (by intro i hi; cases hi)
          simp only [List.toList_toArray, List.take_succ_cons, List.take_zero]
          have KW : ∀ W, Below w1.heap.size w1 W → W.cell? ⟨pa, 0, none⟩ = some (.int .i64 (k : Int)) ∧ W.cell? ⟨pm, 0, none⟩ = some (.func (.func 79) #[] #[.pointer (some ⟨pa, 0, none⟩)]) ∧ W.cell? ⟨ps, 0, none⟩ = some (.string s) := fun W hW => ⟨(HR.out.1.below hW).at0, (HR.out.1.below hW).at1, (HR.out.1.below hW).at2⟩
          iterate 7 (
            refine sq_pure (by rfl) (fun W hb _ => ?_) ?_
            · obtain ⟨y0, y1, y2⟩ := KW W hb
              go_simp
            simp only [Act.put, List.setIfInBounds_toArray, List.set_cons_zero, List.set_cons_succ])
          refine sq_end (fun W hb _ => ?_)
          intro b' hex hdf
          refine panics_of (f := 79) (args := #[.bool false, .int .i64 6, .pointer (some ⟨pa, 0, none⟩)]) (by go_simp) hex (MN.out W hb) fun e' w2 h => ?_
          have HF := Faulted.after HR.out.2.1 (Faulted.after (Kp.below hb) h)
          obtain ⟨bf, rfl, h1, h2, h3⟩ := h
          exact ⟨_, rfl, hdf, HF⟩
      · have e0 : decide ((k : Int) < (s.size : Int)) = false := by simp; omega
        have hr := HR.out.2.2.trans (magR_short h3 (by rw [ba_size]; exact hlt))
        rw [hr]
        have MN : Hid (Calls Tryd.prog 79 #[.bool false, .int .i64 3, .pointer (some ⟨pa, 0, none⟩)] wr (Faulted wr pa 3 k)) := Lib.hid (must_no HR.out.1 3)
        clear hr
        go_wp2_with (go_at_call 79; (with_reducible refine MN.out.mono ?_); rintro e' w1 h; have HF := Lib.hid (Faulted.after HR.out.2.1 h); obtain ⟨bf, rfl, h1, h2, h3⟩ := h)
        exact ⟨rfl, HF.out⟩
    · have e3 : decide ((k : Int) < 3) = false := by simp; omega
      obtain rfl : k = 3 := by omega
      have hr := HR.out.2.2.trans (magR_done s.data.toList)
      rw [hr]
      clear hr
      go_wp2
      go_end0
      exact ⟨rfl, HR.out.1, HR.out.2.1⟩

end Go.Proofs.YtjiilmiikejnhaaDoor

/-
  The document's trie: Put.
-/
import Derived.Test.YtclaadiclgfbmaaG30
import Derived.Deep.RegionLaw
import Derived.Deep.RegionHeld3
set_option linter.unusedVariables false
set_option linter.unusedSimpArgs false
namespace Go.Proofs.Ytclaadiclgfbmaa
open Go.RowKit Go.Shelf

theorem near_words {A : List Ent} (hr : risingE A = true) (s : ByteArray) : Plain.near (bl (A.map fun x => x.word)) s.data.toList = (placeE A s.data.toList, isE A s.data.toList) := by
  rw [bl_words, Plain.near_rising (rising_bl hr), place_bl hr, isE_mem]

theorem ents_cap {W : World} {ad : Option Addr} {n c : Nat} {l : List Ent} (h : Ents W (.slice ad n c) l) (c' : Nat) : Ents W (.slice ad n c') l := by
  obtain ⟨ad', c0, hv, hx⟩ := h
  injection hv with e1 e2 e3
  subst e1
  exact ⟨_, c', by rw [e2], hx⟩

theorem rput_fin {w w5 wC : World} {R : Nat} {ad3 : Option Addr} {cc3 n3 : Nat} {l : List Ent} {u : Value} (hR : R < w5.heap.size) (hbx : Boxed wC R 28 u) (hb : Below w.heap.size w wC) (o3 : wC.ownsRow w5.heap.size 33 3 (.slice ad3 n3 cc3) l.length (ents l)) :
    RefT (wC.setCell ⟨R, 0, none⟩ (.slice ad3 n3 cc3)) R l ∧ w.grownBy (wC.setCell ⟨R, 0, none⟩ (.slice ad3 n3 cc3)) (some R) := by
  have hs := ents_of_owns o3
  have hg : ∀ a : Addr, ad3 = some a → w5.heap.size ≤ a.block := fun a ha => by
    rcases o3.2 with ⟨hv, h0⟩ | ⟨g, cap, cur, hv, hg, _⟩
    · injection hv with e1 e2 e3
      rw [e1] at ha
      cases ha
    · injection hv with e1 e2 e3
      rw [e1] at ha
      injection ha with ha
      rw [← ha]; exact hg
  have hr := rowE_owns o3
  obtain ⟨ad', c', hv, h1, h2, h3⟩ := hr
  injection hv with e1 e2 e3
  subst e1 e2 e3
  refine ⟨⟨ad3, cc3, hbx.set _, h1, h2, h3.grown (grownBy_setCell' wC R _) (fun a ha e => ?_)⟩, gb_set (gb_below (gb_refl w _) hb) 0 _⟩
  injection e with e
  have := hg a ha
  omega

set_option maxRecDepth 100000 in
set_option maxHeartbeats 8000000 in
theorem rput_word (A : List Ent) (R : Nat) (xw : ByteArray) (xn : Nat) (xg : Bool) (w : World) (h : RefT w R A) (hr : risingE A = true) (hl : A.length ≤ 500) (hA : ∀ y ∈ A, y.word.size ≤ 255) (hx : wordT xw = true) :
    Calls Try.prog 17 #[.pointer (some ⟨R, 0, none⟩), .agg #[.string xw, .int .u32 (xn : Int), .bool xg]] w fun e w' => e = .returned (.int .i64 0) ∧ RefT w' R (putE A (bare ⟨xw, xn, xg⟩)) ∧ w.grownBy w' (some R) := by
  have hxs := (wordT_true hx).2
  have q57 := fun W => refIs_any xw W (by omega)
  rw [hx] at q57
  obtain ⟨ad, c, h1, h2, h3, h4⟩ := h
  obtain ⟨p, hp⟩ : ∃ p, p = placeE A xw.data.toList := ⟨_, rfl⟩
  obtain ⟨b, hb⟩ : ∃ b, b = isE A xw.data.toList := ⟨_, rfl⟩
  obtain ⟨q, hq⟩ : ∃ q, q = p + if b = true then 1 else 0 := ⟨_, rfl⟩
  have hpl : p ≤ A.length := by rw [hp]; exact placeE_le _ _
  have hql : q ≤ A.length := by
    rw [hq]
    cases hbb : b with
    | false => simpa using hpl
    | true =>
      rw [hb] at hbb
      obtain ⟨h, _⟩ := (place_is hr xw.data.toList).1 hbb
      rw [if_pos rfl, hp]; exact h
  have HPUT : Hid (putE A (bare ⟨xw, xn, xg⟩) = A.take p ++ bare ⟨xw, xn, xg⟩ :: A.drop q) := Lib.hid (by
    rw [putE_place hr, key_bare, hq, hb, hp]; rfl)
  have QN : Hid (∀ (v : Value) W, Strs W v (A.map fun x => x.word) → Calls Try.prog 78 #[v, .string xw] W fun e w' => e = .returned (.tuple #[.int .i64 (p : Int), .bool b]) ∧ Below W.heap.size W w') := Lib.hid fun v W hv => by
    have := refNear_any _ v xw W hv (fun s hs => by
      obtain ⟨y, hy, rfl⟩ := List.mem_map.1 hs
      have := hA y hy; omega) (by omega) (by rw [List.length_map]; omega)
    rw [near_words hr, ← hp, ← hb] at this
    exact this
  have HRB := Lib.hid h1
  have hRl := h1.lt
  have HE4 := Lib.hid h4
  have HQ := Lib.hid hq
  clear hp hb h1 h4 hr hA hq
  obtain ⟨nb, hnb⟩ : ∃ nb, nb = if xg = true then 0 else xn := ⟨_, rfl⟩
  have hbx : bare ⟨xw, xn, xg⟩ = ⟨xw, nb, xg⟩ := by rw [hnb]; unfold bare; cases xg <;> rfl
  rw [hbx] at HPUT ⊢
  have HNB := Lib.hid hnb
  clear hnb hbx
  go_enter Try.func17, Try.ntmps17
  go_upto_if 13 with (go_at_call 77; (with_reducible refine Calls.mono (q57 _) ?_); rintro e w6 ⟨rfl, rfl⟩)
  go_cut [14] from 14 to 14 (fun s14 wx => ∃ z : Value, s14 = z ∧ wx = w.alloc (.cells #[.string xw, .int .u32 (nb : Int), .bool xg] 33))
  case first =>
    cases xg with
    | true =>
      go_wp2_with fail
      go_meet
      exact ⟨_, rfl, by rw [HNB.out]; rfl⟩
    | false =>
      go_wp2_with fail
      go_meet
      exact ⟨_, rfl, by rw [HNB.out]; rfl⟩
  case rest =>
  obtain ⟨z, rfl, hwc⟩ := hcut
  obtain ⟨w2, h⟩ : ∃ w2, w2 = wc := ⟨_, rfl⟩
  subst h
  have H02 : Hid (Below w.heap.size w w2) := Lib.hid (by rw [hwc]; exact below_alloc _ _)
  have HBX : Hid (∀ W, Below w2.heap.size w2 W → W.cell? ⟨w.heap.size, 0, none⟩ = some (.string xw) ∧ W.cell? ⟨w.heap.size, 1, none⟩ = some (.int .u32 (nb : Int)) ∧ W.cell? ⟨w.heap.size, 2, none⟩ = some (.bool xg)) := Lib.hid fun W h => box_kept (by rw [← hwc]; exact h)
  have HRW : Hid (∀ W, Below w2.heap.size w2 W → Boxed W R 28 (.slice ad A.length c)) := Lib.hid fun W h => boxed_below (boxed_below HRB.out H02.out) h
  have HEW : Hid (∀ W, Below w2.heap.size w2 W → Ents W (.slice ad A.length c) A) := Lib.hid fun W h => (HE4.out.below H02.out).below h
  have hz2 : w.heap.size < w2.heap.size := by rw [hwc]; simp
  clear hwc q57
  have CX : Hid (∀ W, Below w2.heap.size w2 W → W.cell? ⟨R, 0, none⟩ = some (.slice ad A.length c) ∧ W.cell? ⟨w.heap.size, 0, none⟩ = some (.string xw) ∧ Below w2.heap.size w2 W) := Lib.hid fun W h => ⟨(HRW.out W h).cell, (HBX.out W h).1, h⟩
  go_upto_region 5 with fail
  go_cut [5, 6] from 15 to 25 (fun s5 s6 wx => s5 = .int .i64 (p : Int) ∧ s6 = .bool b ∧ Hid (Below w2.heap.size w2 wx))
  case first =>
    have QW := Lib.hid (fun W (h : Below w2.heap.size w2 W) => words_any A _ W (HEW.out W h) hl)
    obtain ⟨x0, x1, -⟩ := CX.out _ (Below.refl _ w2)
    go_region_held3 (fun W => W.cell? ⟨R, 0, none⟩ = some (.slice ad A.length c) ∧ W.cell? ⟨w.heap.size, 0, none⟩ = some (.string xw) ∧ Below w2.heap.size w2 W)
      ((refine CX.out _ ?_; repeat (first | with_reducible assumption | with_reducible exact Below.refl _ _ | (with_reducible refine Below.drew ?_) | (with_reducible apply below_alloc') | with_reducible exact N1 | with_reducible exact N2)))
      (first
        | (go_at_call 79; (with_reducible refine Calls.mono (QW.out _ (by repeat (first | with_reducible exact Below.refl _ _ | (with_reducible refine Below.drew ?_)))) ?_); rintro e w3 ⟨v3, rfl, hS, hb⟩; have N1 : Below w2.heap.size w2 w3 := Below.next (by repeat (first | with_reducible exact Below.refl _ _ | (with_reducible refine Below.drew ?_))) hb; obtain ⟨ads, cs, hv3, hxs⟩ := hS; rw [List.length_map] at hv3; subst hv3; have hS' : Strs w3 (.slice ads A.length cs) (A.map fun x => x.word) := ⟨ads, cs, by rw [List.length_map], hxs⟩; have HS := Lib.hid hS'; clear hb hxs hS')
        | (go_at_call 78; (with_reducible refine Calls.mono (QN.out _ _ HS.out) ?_); rintro e w4 ⟨rfl, hb⟩; have N2 : Below w2.heap.size w2 w4 := Below.next N1 hb; clear hb))
    all_goals go_wp2_with fail
    all_goals go_meet
    all_goals exact ⟨rfl, rfl, Lib.hid N2⟩
  case rest =>
  obtain ⟨rfl, rfl, H25⟩ := hcut
  obtain ⟨w3, h⟩ : ∃ w3, w3 = wc := ⟨_, rfl⟩
  subst h
  have cR := (HRW.out _ H25.out).cell
  have HD : Hid (∀ (r : Nat), r ≤ A.length → ∃ adr cr, .slice (if c = r then ad else Option.map (fun x => x.add (r * 3)) ad) (A.length - r) (c - r) = (.slice adr (A.length - r) cr : Value) ∧ ∀ W, Below w2.heap.size w2 W → Ents W (.slice adr (A.length - r) cr) (A.drop r)) := Lib.hid fun r hr => ⟨_, _, rfl, fun W h => (HEW.out W h).drop h2 hr⟩
  have hp1 : p ≤ c := by omega
  go_upto_region 6 with fail
  go_cut [7] from 26 to 31 (fun s7 wx => ∃ adr cr, s7 = .slice adr (A.length - p) cr ∧ Hid (∀ W, Below w2.heap.size w2 W → Ents W (.slice adr (A.length - p) cr) (A.drop p)) ∧ wx = w3)
  case first =>
    obtain ⟨adr, cr, he, HDp⟩ := HD.out p hpl
    have HDP := Lib.hid HDp
    have HHE := Lib.hid he
    clear he HDp
    by_cases hcp : c = p
    · have hhe := HHE.out
      rw [if_pos hcp] at hhe
      injection hhe with e1 e2 e3
      subst e1
      go_wp2_with fail
      go_meet
      exact ⟨_, _, rfl, Lib.hid (fun W h => ents_cap (HDP.out W h) _), rfl⟩
    · have hhe := HHE.out
      rw [if_neg hcp] at hhe
      injection hhe with e1 e2 e3
      subst e1 e3
      go_wp2_with fail
      go_meet
      exact ⟨_, _, rfl, HDP, rfl⟩
  case rest =>
  obtain ⟨adr, cr, rfl, HDP, hwc⟩ := hcut
  obtain ⟨w4, h⟩ : ∃ w4, w4 = wc := ⟨_, rfl⟩
  subst h
  rw [← hwc] at H25 cR
  clear hwc
  go_upto_if 32 with fail
  go_cut [7] from 33 to 39 (fun s7 wx => ∃ ad' c', s7 = .slice ad' (A.length - q) c' ∧ Hid (∀ W, Below w2.heap.size w2 W → Ents W (.slice ad' (A.length - q) c') (A.drop q)) ∧ wx = w4)
  case first =>
    cases b with
    | false =>
      have HQ' : Hid (q = p) := Lib.hid (by rw [HQ.out]; rfl)
      go_wp2_with fail
      go_meet
      exact ⟨_, _, by rw [HQ'.out], by rw [HQ'.out]; exact HDP, rfl⟩
    | true =>
      have hq' : q = p + 1 := by rw [HQ.out]; rfl
      obtain ⟨ad2, c2', he, HDq⟩ := HD.out q hql
      have HDQ := Lib.hid HDq
      have HHE := Lib.hid he
      clear he HDq
      have eq1 : (p : Int) + 1 = (q : Int) := by omega
      clear hq'
      by_cases hcp : c = q
      · have hhe := HHE.out
        rw [if_pos hcp] at hhe
        injection hhe with e1 e2 e3
        subst e1
        go_wp2_with fail
        go_meet
        exact ⟨_, _, rfl, Lib.hid (fun W h => ents_cap (HDQ.out W h) _), rfl⟩
      · have hhe := HHE.out
        rw [if_neg hcp] at hhe
        injection hhe with e1 e2 e3
        subst e1 e3
        go_wp2_with fail
        go_meet
        exact ⟨_, _, rfl, HDQ, rfl⟩
  case rest =>
  obtain ⟨adq, cq, rfl, HDQ, hwc⟩ := hcut
  obtain ⟨w5, h⟩ : ∃ w5, w5 = wc := ⟨_, rfl⟩
  subst h
  rw [← hwc] at H25 cR
  clear hwc HDP HD
  have HE5 : Hid (∀ W, Below w5.heap.size w5 W → Ents W (.slice ad p c) (A.take p)) := Lib.hid fun W h => (HEW.out W (Below.next H25.out h)).take hpl
  have HD5 : Hid (∀ W, Below w5.heap.size w5 W → Ents W (.slice adq (A.length - q) cq) (A.drop q)) := Lib.hid fun W h => HDQ.out W (Below.next H25.out h)
  have CX5 : Hid (∀ W, Below w5.heap.size w5 W → W.cell? ⟨R, 0, none⟩ = some (.slice ad A.length c) ∧ W.cell? ⟨w.heap.size, 0, none⟩ = some (.string xw) ∧ W.cell? ⟨w.heap.size, 1, none⟩ = some (.int .u32 (nb : Int)) ∧ W.cell? ⟨w.heap.size, 2, none⟩ = some (.bool xg) ∧ W.frozen? ⟨R, 0, none⟩ = false) := Lib.hid fun W h => by
    have h' := Below.next H25.out h
    exact ⟨(HRW.out W h').cell, (HBX.out W h').1, (HBX.out W h').2.1, (HBX.out W h').2.2, (HRW.out W h').frozen⟩
  have hz5 : w.heap.size < w5.heap.size := Nat.lt_of_lt_of_le hz2 H25.out.size
  have hR5 : R < w5.heap.size := by omega
  obtain ⟨cc0, cc1, cc2, cc3, cf⟩ := CX5.out _ (Below.refl _ w5)
  have hO0 : ∀ (W : World) (g : Nat), g = W.heap.size → Below w5.heap.size w5 W → (W.alloc (.cells #[] 33)).ownsRow w5.heap.size 33 3 (.slice (some ⟨g, 0, none⟩) 0 0) ([] : List Ent).length (ents []) := fun W g hg hW => by
    subst hg
    exact ⟨rfl, .inr ⟨W.heap.size, 0, _, rfl, hW.size, heap_alloc_new W _, Nat.le_refl _, by unfold maxLen; omega, rfl, rfl⟩⟩
  have HL5 : Hid (p ≤ 500 ∧ (A.take p).length ≤ 500 ∧ (A.drop q).length ≤ 500) := Lib.hid ⟨by omega, by rw [List.length_take]; omega, by rw [List.length_drop]; omega⟩
  have HRB5 : Hid (∀ W, Below w5.heap.size w5 W → Boxed W R 28 (.slice ad A.length c)) := Lib.hid fun W h => HRW.out W (Below.next H25.out h)
  have H05 : Hid (Below w.heap.size w w5) := Lib.hid (Below.next H02.out H25.out)
  obtain ⟨L3, hL3⟩ : ∃ L3 : List Ent, L3 = [] ++ A.take p ++ [⟨xw, nb, xg⟩] ++ A.drop q := ⟨_, rfl⟩
  have HPUT' : Hid (putE A ⟨xw, nb, xg⟩ = L3) := Lib.hid (by rw [HPUT.out, hL3]; simp)
  have HL3 := Lib.hid hL3
  clear hL3
  clear HEW HDQ HRW HBX CX cR QN
  go_upto_region 9 with fail
  go_region_law (first
    | (refine step_append_ents (w0 := w5) rfl (.tmp 41) (.tmp 47) rfl rfl _ (.slice ad p c) [] (A.take p) rfl rfl (by repeat (first | with_reducible assumption | with_reducible exact Below.refl _ _ | (with_reducible refine Below.drew ?_) | (with_reducible apply below_alloc'))) (by repeat (first | exact hO0 _ _ rfl (by repeat (first | with_reducible assumption | with_reducible exact Below.refl _ _ | (with_reducible refine Below.drew ?_) | (with_reducible apply below_alloc'))) | exact hO0 _ _ (by simp) (by repeat (first | with_reducible assumption | with_reducible exact Below.refl _ _ | (with_reducible refine Below.drew ?_) | (with_reducible apply below_alloc'))) | (with_reducible apply ownsE_drew') | (with_reducible apply World.ownsRow.alloc))) (HE5.out _ (by repeat (first | with_reducible assumption | with_reducible exact Below.refl _ _ | (with_reducible refine Below.drew ?_) | (with_reducible apply below_alloc')))) (by have := HL5.out.2.1; simp at this ⊢; omega) ?_; intro v1 wA o1 g1 b1; obtain ⟨ca0, ca1, ca2, ca3, caf⟩ := CX5.out wA b1)
    | (refine step_append_ents (w0 := w5) rfl (.tmp 48) (.tmp 50) rfl rfl v1 _ ([] ++ A.take p) [⟨xw, nb, xg⟩] rfl rfl (by repeat (first | with_reducible assumption | with_reducible exact Below.refl _ _ | (with_reducible refine Below.drew ?_) | (with_reducible apply below_alloc'))) (by repeat (first | exact o1 | (with_reducible apply ownsE_drew') | (with_reducible apply World.ownsRow.alloc))) (by first | exact ents_single rfl | exact ents_drew' (ents_single rfl) | (refine Ents.grown ?_ g1 (fun a ha e => by cases ha; injection e with e; first | omega | (simp at e)); repeat (first | exact ents_single rfl | exact ents_single (by simp) | (with_reducible apply ents_drew') | (with_reducible apply ents_alloc')))) (by have := HL5.out.2.1; simp at this ⊢; omega) ?_; intro v2 wB o2 g2 b2; obtain ⟨cb0, cb1, cb2, cb3, cbf⟩ := CX5.out wB b2)
    | (refine step_append_ents (w0 := w5) rfl (.tmp 51) (.tmp 52) rfl rfl v2 (.slice adq (A.length - q) cq) ([] ++ A.take p ++ [⟨xw, nb, xg⟩]) (A.drop q) rfl rfl (by repeat (first | with_reducible assumption | with_reducible exact Below.refl _ _ | (with_reducible refine Below.drew ?_) | (with_reducible apply below_alloc'))) (by repeat (first | exact o2 | (with_reducible apply ownsE_drew') | (with_reducible apply World.ownsRow.alloc))) (HD5.out _ (by repeat (first | with_reducible assumption | with_reducible exact Below.refl _ _ | (with_reducible refine Below.drew ?_) | (with_reducible apply below_alloc')))) (by have h1 := HL5.out.2.1; have h2 := HL5.out.2.2; simp at h1 h2 ⊢; omega) ?_; intro v3 wC o3 g3 b3; rw [← HL3.out] at o3; obtain ⟨ad3, cc3, hv3, -⟩ := ents_of_owns o3; subst hv3; have HO3 := Lib.hid (And.intro o3 b3); obtain ⟨cd0, cd1, cd2, cd3, cdf⟩ := CX5.out wC b3))
  all_goals go_wp2_with fail
  all_goals go_ret
  all_goals
    rw [HPUT'.out]
    obtain ⟨r1, r2⟩ := rput_fin hR5 (HRB5.out _ HO3.out.2) (Below.next H05.out HO3.out.2) HO3.out.1
    exact ⟨rfl, r1, r2⟩
end Go.Proofs.Ytclaadiclgfbmaa

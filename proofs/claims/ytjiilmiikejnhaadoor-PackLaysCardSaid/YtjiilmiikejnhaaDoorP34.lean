/-
  PackKnown: the closed law.
-/
import Derived.Test.YtjiilmiikejnhaaDoorP27
import Derived.Test.YtjiilmiikejnhaaDoorP28
import Derived.Test.YtjiilmiikejnhaaDoorP26
import Derived.Test.YtjiilmiikejnhaaDoorP33
set_option linter.unusedVariables false
set_option linter.unusedSimpArgs false
namespace Go.Proofs.YtjiilmiikejnhaaDoor
open Go.RowKit Go.Shelf

def OneB (w : World) (p : Nat) (v : Value) : Prop := w.heap[p]? = some (.cells #[v, .int .u64 18446744073709551615] 25 (0, 0))
theorem OneB.lt {w : World} {p : Nat} {v : Value} (h : OneB w p v) : p < w.heap.size := (Array.getElem?_eq_some_iff.1 h).1
theorem OneB.at0 {w : World} {p : Nat} {v : Value} (h : OneB w p v) : w.cell? ⟨p, 0, none⟩ = some v := by rw [cell_of_row w p 0 _ _ _ h]; rfl
theorem OneB.at1 {w : World} {p : Nat} {v : Value} (h : OneB w p v) : w.cell? ⟨p, 1, none⟩ = some (.int .u64 18446744073709551615) := by rw [cell_of_row w p 1 _ _ _ h]; rfl
theorem OneB.below {w w' : World} {p : Nat} {v : Value} (h : OneB w p v) (hb : Below w.heap.size w w') : OneB w' p v := (hb.block _ h.lt).trans h
theorem OneB.next {w : World} {p : Nat} {v : Value} (h : OneB w p v) (o : Obj) : OneB (w.alloc o) p v := h.below (below_alloc w o)
def oneS : List DSt := [⟨[], true, 18446744073709551615⟩]
def oneA : Array UInt8 := (layT 100000 oneS 18446744073709551615).toArray
theorem one_size : oneA.size ≤ 1000 := by decide +kernel
theorem one_back : bodyR oneA.toList = .ok (100000, oneS, 18446744073709551615) := by
  show bodyR (layT 100000 oneS 18446744073709551615) = _
  exact bodyR_lay (by omega) (by omega) (by decide) (by decide) (by decide) (by decide)
theorem one_over : mayT 100001 oneS = false := by decide
theorem one_below : mayT (-1) oneS = false := by decide

theorem kf0 : bodyR [67] = .error (3, 1) := by rfl
theorem kf1 : bodyR [88] = .error (6, 0) := by rfl
theorem kf2 : bodyR [67, 83, 1] = .error (3, 3) := by rfl
theorem kf3 : bodyR [67, 83, 1, 250, 161, 134, 1] = .error (17, 3) := by rfl
theorem kf4 : bodyR [67, 83, 1, 0, 0] = .error (17, 4) := by rfl
theorem kf5 : bodyR [67, 83, 1, 248, 1] = .error (5, 3) := by rfl
theorem kf6 : bodyR [67, 83, 1, 0, 2] = .error (3, 5) := by rfl
theorem kf7 : bodyR [67, 83, 1, 0, 2, 2] = .error (3, 6) := by rfl
theorem kf8 : bodyR [67, 83, 1, 0, 2, 2, 97, 0, 1] = .error (17, 8) := by rfl
theorem kf9 : bodyR [67, 83, 1, 0, 2, 0, 2, 97, 0, 0] = .error (17, 9) := by rfl
theorem kf10 : bodyR [67, 83, 1, 0, 2, 0, 2, 97, 0, 2] = .error (17, 9) := by rfl
theorem kf11 : bodyR [67, 83, 1, 0, 2, 0, 2, 97, 0, 1] = .error (3, 10) := by rfl
theorem kf12 : bodyR [67, 83, 1, 0, 2, 0, 2, 97, 0, 1, 0, 7] = .error (4, 11) := by rfl
theorem kf13 : bodyR [67, 83, 1, 0, 2, 0, 249, 2, 2] = .error (17, 6) := by rfl

set_option maxHeartbeats 4000000 in
set_option maxRecDepth 100000 in
theorem known_walk {w : World} (hF : Fours w) (hE : ErrT w) : Calls Tryd.prog 7 #[] w fun e w' => e = .returned (.bool true) ∧ Below w.heap.size w w' := by
  obtain ⟨Z, hZ⟩ : ∃ Z, Z = (arcsC (zs 257)).toArray := ⟨_, rfl⟩
  obtain ⟨Y, hY⟩ : ∃ Y, Y = (arcsC (zs 256)).toArray := ⟨_, rfl⟩
  have mk1 : ∀ W : World, (Instr.makeSlice 62 (.int .i64 257) (.int .i64 257)).run Tryd.prog W = .ok (.slice (some ⟨W.heap.size, 0, none⟩) 257 257) (W.alloc (.cells Z 66)) := fun W => by rw [hZ]; exact make_zs 257 (by omega) (by omega) W
  have mk2 : ∀ W : World, (Instr.makeSlice 62 (.int .i64 256) (.int .i64 256)).run Tryd.prog W = .ok (.slice (some ⟨W.heap.size, 0, none⟩) 256 256) (W.alloc (.cells Y 66)) := fun W => by rw [hY]; exact make_zs 256 (by omega) (by omega) W
  have HY := Lib.hid hY
  have HBAD := Lib.hid (bads_in w hZ)
  have HBW := Lib.hid (allocs_below (objsK w.heap.size Z) w)
  have HBL := Lib.hid (bad_rights w.heap.size)
  have HXL : Hid ((badL w.heap.size).length = 6) := Lib.hid rfl
  have HFE := Lib.hid (And.intro hF hE)
  obtain ⟨tA, htA⟩ : ∃ t, sealed ⟨oneA⟩ = t := ⟨_, rfl⟩
  obtain ⟨xsB, hxB⟩ : ∃ xsB, xsB = badL w.heap.size := ⟨_, rfl⟩
  rw [← hxB] at HBAD HBL HXL
  have PNo : Hid (∀ (W : World) (v : Value) (l : List DSt) (x : Int) (init : Nat) (y : Int), y = (init : Int) → Below w.heap.size w W → Sts W v l → l.length ≤ 100000 → (∀ s ∈ l, s.arcs.length ≤ 100000) → mayT x l = false → Calls Tryd.prog 11 #[.int .i64 x, .agg #[v, .int .u64 y]] W fun e w' => e = .returned (.tuple #[.string ⟨#[]⟩, .int .i64 2]) ∧ Below W.heap.size W w') := Lib.hid fun W v l x init y hy hb h h1 h2 h3 => by rw [hy]; exact packPut_no h h1 h2 h3
  have SNo : Hid (∀ (W : World) (v : Value) (l : List DSt) (x : Int) (init : Nat) (y : Int), y = (init : Int) → Below w.heap.size w W → Sts W v l → l.length ≤ 100000 → (∀ s ∈ l, s.arcs.length ≤ 100000) → mayT x l = false → Calls Tryd.prog 13 #[.int .i64 x, .agg #[v, .int .u64 y]] W fun e w' => e = .returned (.int .i64 0) ∧ Below W.heap.size W w') := Lib.hid fun W v l x init y hy hb h h1 h2 h3 => by rw [hy]; exact packSize_no h h1 h2 h3
  have PA : Hid (∀ (W : World) (v : Value), Below w.heap.size w W → Sts W v oneS → Calls Tryd.prog 11 #[.int .i64 100000, .agg #[v, .int .u64 18446744073709551615]] W fun e w' => e = .returned (.tuple #[.string tA, .int .i64 0]) ∧ Below W.heap.size W w') := Lib.hid fun W v hb h => by
    have := put_lit (w := W) (n := 100000) (init := 18446744073709551615) (HFE.out.1.below hb) (l := oneS) (a := oneA) rfl (Nat.le_trans one_size (by omega)) (by decide) (by decide) (by decide) (by decide) (by decide) (by decide) (by decide) (x := 100000) (y := 18446744073709551615) rfl rfl (Below.refl _ _) h
    rwa [htA] at this
  have GA : Hid (∀ W, Below w.heap.size w W → Calls Tryd.prog 18 #[.string tA] W fun e w' => ∃ ad c, e = .returned (.tuple #[.int .i64 100000, .agg #[.slice ad 1 c, .int .u64 18446744073709551615], .nilIface]) ∧ Sts w' (.slice ad 1 c) oneS ∧ Below W.heap.size W w') := Lib.hid fun W hb => by
    have q := packGet_any (HFE.out.1.below hb) (s := sealed ⟨oneA⟩) (by rw [sealed_size]; have := one_size; show oneA.size + 4 ≤ _; omega)
    rw [readR_sealed, one_back, htA] at q
    refine q.mono ?_
    rintro e w' ⟨⟨v, xs, rfl, h1, h2⟩, h3⟩
    have hs := h1.sts
    rw [h2] at hs
    obtain ⟨ad, c, rfl, hc⟩ := hs
    exact ⟨ad, c, rfl, ⟨ad, c, rfl, hc⟩, h3⟩
  have PM : Hid (∀ (W : World) (v : Value), Below w.heap.size w W → Sts W v manyS → Calls Tryd.prog 11 #[.int .i64 0, .agg #[v, .int .u64 0]] W fun e w' => (∃ s, e = .returned (.tuple #[.string s, .int .i64 0])) ∧ Below W.heap.size W w') := Lib.hid fun W v hb h => by
    refine (packPut_yes (n := 0) (init := 0) (HFE.out.1.below hb) h (by decide) many_arcs many_may (by omega) (by omega) many_mays many_ok many_len).mono ?_
    rintro e w' ⟨rfl, h2⟩
    exact ⟨⟨_, rfl⟩, h2⟩
  have WK : Hid (∀ W, Below w.heap.size w W → Calls Tryd.prog 14 #[] W fun e w' => e = .returned (.bool true) ∧ Below W.heap.size W w') := Lib.hid fun W hb => works_any (HFE.out.1.below hb) (HFE.out.2.below hb)
  have SM : Hid (∀ (W : World) (v v' : Value), Sts W v oneS → Sts W v' oneS → Calls Tryd.prog 19 #[.agg #[v, .int .u64 18446744073709551615], .agg #[v', .int .u64 18446744073709551615]] W fun e w' => e = .returned (.bool true) ∧ Below W.heap.size W w') := Lib.hid fun W v v' h h' => by
    have := sameF_any (n1 := 18446744073709551615) (n2 := 18446744073709551615) h h' (by decide) (by decide) (by decide) (by decide)
    rwa [decide_eq_true (⟨rfl, rfl⟩ : (18446744073709551615 : Nat) = 18446744073709551615 ∧ oneS = oneS)] at this
  have FF0 : Hid (∀ W, Below w.heap.size w W → Calls Tryd.prog 22 #[.string ⟨#[67]⟩, .int .i64 3, .int .i64 1] W fun e w' => e = .returned (.bool true) ∧ Below W.heap.size W w') := Lib.hid fun W hb => fails_any (HFE.out.1.below hb) (HFE.out.2.below hb) (s := ⟨#[67]⟩) (by decide) kf0 (by decide) rfl rfl
  have FF1 : Hid (∀ W, Below w.heap.size w W → Calls Tryd.prog 22 #[.string ⟨#[88]⟩, .int .i64 6, .int .i64 0] W fun e w' => e = .returned (.bool true) ∧ Below W.heap.size W w') := Lib.hid fun W hb => fails_any (HFE.out.1.below hb) (HFE.out.2.below hb) (s := ⟨#[88]⟩) (by decide) kf1 (by decide) rfl rfl
  have FF2 : Hid (∀ W, Below w.heap.size w W → Calls Tryd.prog 22 #[.string ⟨#[67, 83, 1]⟩, .int .i64 3, .int .i64 3] W fun e w' => e = .returned (.bool true) ∧ Below W.heap.size W w') := Lib.hid fun W hb => fails_any (HFE.out.1.below hb) (HFE.out.2.below hb) (s := ⟨#[67, 83, 1]⟩) (by decide) kf2 (by decide) rfl rfl
  have FF3 : Hid (∀ W, Below w.heap.size w W → Calls Tryd.prog 22 #[.string ⟨#[67, 83, 1, 250, 161, 134, 1]⟩, .int .i64 17, .int .i64 3] W fun e w' => e = .returned (.bool true) ∧ Below W.heap.size W w') := Lib.hid fun W hb => fails_any (HFE.out.1.below hb) (HFE.out.2.below hb) (s := ⟨#[67, 83, 1, 250, 161, 134, 1]⟩) (by decide) kf3 (by decide) rfl rfl
  have FF4 : Hid (∀ W, Below w.heap.size w W → Calls Tryd.prog 22 #[.string ⟨#[67, 83, 1, 0, 0]⟩, .int .i64 17, .int .i64 4] W fun e w' => e = .returned (.bool true) ∧ Below W.heap.size W w') := Lib.hid fun W hb => fails_any (HFE.out.1.below hb) (HFE.out.2.below hb) (s := ⟨#[67, 83, 1, 0, 0]⟩) (by decide) kf4 (by decide) rfl rfl
  have FF5 : Hid (∀ W, Below w.heap.size w W → Calls Tryd.prog 22 #[.string ⟨#[67, 83, 1, 248, 1]⟩, .int .i64 5, .int .i64 3] W fun e w' => e = .returned (.bool true) ∧ Below W.heap.size W w') := Lib.hid fun W hb => fails_any (HFE.out.1.below hb) (HFE.out.2.below hb) (s := ⟨#[67, 83, 1, 248, 1]⟩) (by decide) kf5 (by decide) rfl rfl
  have FF6 : Hid (∀ W, Below w.heap.size w W → Calls Tryd.prog 22 #[.string ⟨#[67, 83, 1, 0, 2]⟩, .int .i64 3, .int .i64 5] W fun e w' => e = .returned (.bool true) ∧ Below W.heap.size W w') := Lib.hid fun W hb => fails_any (HFE.out.1.below hb) (HFE.out.2.below hb) (s := ⟨#[67, 83, 1, 0, 2]⟩) (by decide) kf6 (by decide) rfl rfl
  have FF7 : Hid (∀ W (s : ByteArray), s = ⟨#[67, 83, 1, 0, 2, 2]⟩ → Below w.heap.size w W → Calls Tryd.prog 22 #[.string s, .int .i64 3, .int .i64 6] W fun e w' => e = .returned (.bool true) ∧ Below W.heap.size W w') := Lib.hid fun W s hs hb => fails_any (HFE.out.1.below hb) (HFE.out.2.below hb) (s := s) (by rw [hs]; decide) (by rw [hs]; exact kf7) (by decide) rfl rfl
  have FF8 : Hid (∀ W (s : ByteArray), s = ⟨#[67, 83, 1, 0, 2, 2, 97, 0, 1]⟩ → Below w.heap.size w W → Calls Tryd.prog 22 #[.string s, .int .i64 17, .int .i64 8] W fun e w' => e = .returned (.bool true) ∧ Below W.heap.size W w') := Lib.hid fun W s hs hb => fails_any (HFE.out.1.below hb) (HFE.out.2.below hb) (s := s) (by rw [hs]; decide) (by rw [hs]; exact kf8) (by decide) rfl rfl
  have FF9 : Hid (∀ W (s : ByteArray), s = ⟨#[67, 83, 1, 0, 2, 0, 2, 97, 0, 0]⟩ → Below w.heap.size w W → Calls Tryd.prog 22 #[.string s, .int .i64 17, .int .i64 9] W fun e w' => e = .returned (.bool true) ∧ Below W.heap.size W w') := Lib.hid fun W s hs hb => fails_any (HFE.out.1.below hb) (HFE.out.2.below hb) (s := s) (by rw [hs]; decide) (by rw [hs]; exact kf9) (by decide) rfl rfl
  have FF10 : Hid (∀ W (s : ByteArray), s = ⟨#[67, 83, 1, 0, 2, 0, 2, 97, 0, 2]⟩ → Below w.heap.size w W → Calls Tryd.prog 22 #[.string s, .int .i64 17, .int .i64 9] W fun e w' => e = .returned (.bool true) ∧ Below W.heap.size W w') := Lib.hid fun W s hs hb => fails_any (HFE.out.1.below hb) (HFE.out.2.below hb) (s := s) (by rw [hs]; decide) (by rw [hs]; exact kf10) (by decide) rfl rfl
  have FF11 : Hid (∀ W (s : ByteArray), s = ⟨#[67, 83, 1, 0, 2, 0, 2, 97, 0, 1]⟩ → Below w.heap.size w W → Calls Tryd.prog 22 #[.string s, .int .i64 3, .int .i64 10] W fun e w' => e = .returned (.bool true) ∧ Below W.heap.size W w') := Lib.hid fun W s hs hb => fails_any (HFE.out.1.below hb) (HFE.out.2.below hb) (s := s) (by rw [hs]; decide) (by rw [hs]; exact kf11) (by decide) rfl rfl
  have FF12 : Hid (∀ W (s : ByteArray), s = ⟨#[67, 83, 1, 0, 2, 0, 2, 97, 0, 1, 0, 7]⟩ → Below w.heap.size w W → Calls Tryd.prog 22 #[.string s, .int .i64 4, .int .i64 11] W fun e w' => e = .returned (.bool true) ∧ Below W.heap.size W w') := Lib.hid fun W s hs hb => fails_any (HFE.out.1.below hb) (HFE.out.2.below hb) (s := s) (by rw [hs]; decide) (by rw [hs]; exact kf12) (by decide) rfl rfl
  have FF13 : Hid (∀ W (s : ByteArray), s = ⟨#[67, 83, 1, 0, 2, 0, 249, 2, 2]⟩ → Below w.heap.size w W → Calls Tryd.prog 22 #[.string s, .int .i64 17, .int .i64 6] W fun e w' => e = .returned (.bool true) ∧ Below W.heap.size W w') := Lib.hid fun W s hs hb => fails_any (HFE.out.1.below hb) (HFE.out.2.below hb) (s := s) (by rw [hs]; decide) (by rw [hs]; exact kf13) (by decide) rfl rfl
  clear hZ hY hF hE htA hxB
  go_enter Tryd.func7, Tryd.ntmps7
  go_upto_region 2 with fail
  obtain ⟨W0, hW0⟩ : ∃ W0, W0 = allocs w (objsK w.heap.size Z) := ⟨_, rfl⟩
  rw [← hW0] at HBAD HBW
  simp only [objsK, allocs, List.foldl_cons, List.foldl_nil] at hW0
  rw [← hW0]
  clear hW0
  go_wp2
  go_loopw [2] (fun s2 wr => ∃ k : Nat, k ≤ 6 ∧ s2 = .int .i64 k ∧ Hid (Below W0.heap.size W0 wr)) (fun s2 _ => 6 - (intOf s2).toNat)
  case atStart => exact ⟨0, by omega, rfl, Lib.hid (Below.refl _ _)⟩
  case round =>
    obtain ⟨k, hk, rfl, HR⟩ := hrel
    have HRW := Lib.hid (HBW.out.trans (HR.out.mono HBW.out.size))
    by_cases hlt : k < 6
    · have e0 : decide ((k : Int) < 6) = true := by simp; omega
      have i1 : (k : Int) < 6 := by omega
      have hkx : k < xsB.length := by rw [HXL.out]; exact hlt
      obtain ⟨h1, h2, h3⟩ := HBAD.out.below HR.out k hkx
      obtain ⟨q1, q2, q3⟩ := HBL.out _ (List.getElem_mem hkx)
      obtain ⟨x, hx⟩ : ∃ x, x = xsB[k] := ⟨_, rfl⟩
      rw [← hx] at h1 h2 h3 q1 q2 q3
      obtain ⟨x1, xl, xi⟩ := x
      have QP := Lib.hid (PNo.out wr x1 xl 0 xi (xi : Int) rfl HRW.out h3 q2 q3 q1)
      have HS3 := Lib.hid (And.intro h3 (And.intro q2 (And.intro q3 q1)))
      have HC := Lib.hid (And.intro h1 h2)
      clear h3 q1 q2 q3 hx hkx
      go_wp2_with (first
        | (go_at_call 11
           (with_reducible refine QP.out.mono ?_)
           go_loud (
           rintro e' w6 ⟨rfl, hb6⟩
           have j1 := (cell_same (hb6.block _ (block_lt_of_cell HC.out.1))).trans HC.out.1
           have j2 := (cell_same (hb6.block _ (block_lt_of_cell HC.out.2))).trans HC.out.2
           have QS := Lib.hid (SNo.out w6 x1 xl 0 xi (xi : Int) rfl (HRW.out.trans (hb6.mono HRW.out.size)) (HS3.out.1.below hb6) HS3.out.2.1 HS3.out.2.2.1 HS3.out.2.2.2)
           have HB6 := Lib.hid (HR.out.trans (hb6.mono HR.out.size))
           clear hb6))
        | (go_at_call 13
           (with_reducible refine QS.out.mono ?_)
           go_loud (
           rintro e' w7 ⟨rfl, hb7⟩
           have HB7 := Lib.hid (HB6.out.trans (hb7.mono HB6.out.size))
           clear hb7)))
      exact ⟨⟨k + 1, by omega, by go_num, HB7⟩, by simp [intOf]; omega⟩
    · have e0 : decide ((k : Int) < 6) = false := by simp; omega
      have hke : k = 6 := by omega
      subst hke
      go_wp2_with (first
        | (go_at_call 11
           (with_reducible refine (PA.out _ _ ?_ ?_).mono ?_)
           · exact below_alloc' (below_alloc' HRW.out)
           · exact (sts_lit [(_, ⟨[], true, 18446744073709551615⟩)] (by simp) (by simp) (List.forall_mem_cons.2 ⟨arcs_nil _, List.forall_mem_nil _⟩)).next
           go_loud (
           rintro e' w1 ⟨rfl, hb1⟩
           have o1 : OneB w1 (wr.heap.size + 1) (.slice (some ⟨wr.heap.size, 0, none⟩) 1 1) := OneB.below (alloc_at _ _ (by simp)) hb1
           have s1 : Sts w1 (.slice (some ⟨wr.heap.size, 0, none⟩) 1 1) oneS := Sts.below ((sts_lit (W := wr) (g := wr.heap.size) [(_, ⟨[], true, 18446744073709551615⟩)] (by simp) (by simp) (List.forall_mem_cons.2 ⟨arcs_nil _, List.forall_mem_nil _⟩)).next) hb1
           have bb := below_alloc' (o := .cells #[.slice (some ⟨wr.heap.size, 0, none⟩) 1 1, .int .u64 18446744073709551615] 25) (below_alloc' (o := .cells #[.slice none 0 0, .bool true, .int .u64 18446744073709551615] 64) HRW.out)
           have HB1 := Lib.hid (And.intro o1 (And.intro s1 (bb.trans (hb1.mono bb.size))))
           have y0 := fun o => (o1.next o).at0
           have y1 := fun o => (o1.next o).at1
           clear hb1 o1 s1 bb))
        | (go_at_call 18
           (with_reducible refine (GA.out _ HB1.out.2.2).mono ?_)
           go_loud (
           rintro e' w2 ⟨ad2, c2, rfl, s2, hb2⟩
           have HB2 := Lib.hid (And.intro ((HB1.out.1.below hb2).next (.cells #[.slice ad2 1 c2, .int .u64 18446744073709551615] 25)) (And.intro ((HB1.out.2.1.below hb2).next (o := .cells #[.slice ad2 1 c2, .int .u64 18446744073709551615] 25)) (And.intro (s2.next (o := .cells #[.slice ad2 1 c2, .int .u64 18446744073709551615] 25)) (And.intro (show OneB (w2.alloc (.cells #[.slice ad2 1 c2, .int .u64 18446744073709551615] 25)) w2.heap.size (.slice ad2 1 c2) from alloc_at _ _ rfl) (below_alloc' (o := .cells #[.slice ad2 1 c2, .int .u64 18446744073709551615] 25) (HB1.out.2.2.trans (hb2.mono HB1.out.2.2.size)))))))
           have z0 := fun o => ((HB1.out.1.below hb2).next o).at0
           have z1 := fun o => ((HB1.out.1.below hb2).next o).at1
           clear hb2 s2 y0 y1))
        | (go_at_call 11
           (with_reducible refine (PNo.out _ _ oneS 100001 18446744073709551615 18446744073709551615 rfl HB2.out.2.2.2.2 HB2.out.2.1 (by decide) (by decide) one_over).mono ?_)
           go_loud (
           rintro e' w3 ⟨rfl, hb3⟩
           have HB3 := Lib.hid (And.intro (HB2.out.1.below hb3) (And.intro (HB2.out.2.1.below hb3) (And.intro (HB2.out.2.2.1.below hb3) (And.intro (HB2.out.2.2.2.1.below hb3) (HB2.out.2.2.2.2.trans (hb3.mono HB2.out.2.2.2.2.size))))))
           have y0 := HB3.out.1.at0
           have y1 := HB3.out.1.at1
           clear hb3 z0 z1))
        | (go_at_call 11
           (with_reducible refine (PNo.out _ _ oneS (-1) 18446744073709551615 18446744073709551615 rfl HB3.out.2.2.2.2 HB3.out.2.1 (by decide) (by decide) one_below).mono ?_)
           go_loud (
           rintro e' w4 ⟨rfl, hb4⟩
           have HB4 := Lib.hid (And.intro (HB3.out.1.below hb4) (And.intro (HB3.out.2.1.below hb4) (And.intro (HB3.out.2.2.1.below hb4) (And.intro (HB3.out.2.2.2.1.below hb4) (HB3.out.2.2.2.2.trans (hb4.mono HB3.out.2.2.2.2.size))))))
           clear hb4 y0 y1))
        | (go_at_call 11
           (with_reducible refine (PM.out _ _ ?_ ?_).mono ?_)
           · exact below_alloc' (below_alloc' HB4.out.2.2.2.2)
           · rw [HY.out]; exact many_lit _
           go_loud (
           rintro e' w5 ⟨⟨s5, rfl⟩, hb5⟩
           have hb5 := ((below_alloc w4 (.cells Y 66)).alloc (by simp) (.cells #[.slice none 0 0, .bool false, .int .u64 0, .slice (some ⟨w4.heap.size, 0, none⟩) 256 256, .bool false, .int .u64 0] 64)).trans (hb5.mono (by simp; omega))
           have HB5 := Lib.hid (And.intro (HB4.out.1.below hb5) (And.intro (HB4.out.2.1.below hb5) (And.intro (HB4.out.2.2.1.below hb5) (And.intro (HB4.out.2.2.2.1.below hb5) (HB4.out.2.2.2.2.trans (hb5.mono HB4.out.2.2.2.2.size))))))
           clear hb5))
        | (go_at_call 14
           (with_reducible refine (WK.out _ HB5.out.2.2.2.2).mono ?_)
           go_loud (
           rintro e' w6 ⟨rfl, hb6⟩
           have HB6 := Lib.hid (And.intro (HB5.out.1.below hb6) (And.intro (HB5.out.2.1.below hb6) (And.intro (HB5.out.2.2.1.below hb6) (And.intro (HB5.out.2.2.2.1.below hb6) (HB5.out.2.2.2.2.trans (hb6.mono HB5.out.2.2.2.2.size))))))
           have y0 := HB6.out.1.at0
           have y1 := HB6.out.1.at1
           have y2 := HB6.out.2.2.2.1.at0
           have y3 := HB6.out.2.2.2.1.at1
           clear hb6))
        | (go_at_call 19
           (with_reducible refine (SM.out _ _ _ HB6.out.2.2.1 HB6.out.2.1).mono ?_)
           go_loud (
           rintro e' v0 ⟨rfl, hb7⟩
           have HV0 := Lib.hid (HB6.out.2.2.2.2.trans (hb7.mono HB6.out.2.2.2.2.size))
           clear hb7 y0 y1 y2 y3))
        | (go_at_call 22
           (with_reducible refine (FF0.out _ HV0.out).mono ?_)
           go_loud (
           rintro e' v1 ⟨rfl, hb8⟩
           have HV1 := Lib.hid (HV0.out.trans (hb8.mono HV0.out.size))
           clear hb8))
        | (go_at_call 22
           (with_reducible refine (FF1.out _ HV1.out).mono ?_)
           go_loud (
           rintro e' v2 ⟨rfl, hb8⟩
           have HV2 := Lib.hid (HV1.out.trans (hb8.mono HV1.out.size))
           clear hb8))
        | (go_at_call 22
           (with_reducible refine (FF2.out _ HV2.out).mono ?_)
           go_loud (
           rintro e' v3 ⟨rfl, hb8⟩
           have HV3 := Lib.hid (HV2.out.trans (hb8.mono HV2.out.size))
           clear hb8))
        | (go_at_call 22
           (with_reducible refine (FF3.out _ HV3.out).mono ?_)
           go_loud (
           rintro e' v4 ⟨rfl, hb8⟩
           have HV4 := Lib.hid (HV3.out.trans (hb8.mono HV3.out.size))
           clear hb8))
        | (go_at_call 22
           (with_reducible refine (FF4.out _ HV4.out).mono ?_)
           go_loud (
           rintro e' v5 ⟨rfl, hb8⟩
           have HV5 := Lib.hid (HV4.out.trans (hb8.mono HV4.out.size))
           clear hb8))
        | (go_at_call 22
           (with_reducible refine (FF5.out _ HV5.out).mono ?_)
           go_loud (
           rintro e' v6 ⟨rfl, hb8⟩
           have HV6 := Lib.hid (HV5.out.trans (hb8.mono HV5.out.size))
           clear hb8))
        | (go_at_call 22
           (with_reducible refine (FF6.out _ HV6.out).mono ?_)
           go_loud (
           rintro e' v7 ⟨rfl, hb8⟩
           have HV7 := Lib.hid (HV6.out.trans (hb8.mono HV6.out.size))
           clear hb8))
        | (go_at_call 22
           (with_reducible refine (FF7.out _ _ ?_ HV7.out).mono ?_)
           · rfl
           go_loud (
           rintro e' v8 ⟨rfl, hb8⟩
           have HV8 := Lib.hid (HV7.out.trans (hb8.mono HV7.out.size))
           clear hb8))
        | (go_at_call 22
           (with_reducible refine (FF8.out _ _ ?_ HV8.out).mono ?_)
           · rfl
           go_loud (
           rintro e' v9 ⟨rfl, hb8⟩
           have HV9 := Lib.hid (HV8.out.trans (hb8.mono HV8.out.size))
           clear hb8))
        | (go_at_call 22
           (with_reducible refine (FF9.out _ _ ?_ HV9.out).mono ?_)
           · rfl
           go_loud (
           rintro e' v10 ⟨rfl, hb8⟩
           have HV10 := Lib.hid (HV9.out.trans (hb8.mono HV9.out.size))
           clear hb8))
        | (go_at_call 22
           (with_reducible refine (FF10.out _ _ ?_ HV10.out).mono ?_)
           · rfl
           go_loud (
           rintro e' v11 ⟨rfl, hb8⟩
           have HV11 := Lib.hid (HV10.out.trans (hb8.mono HV10.out.size))
           clear hb8))
        | (go_at_call 22
           (with_reducible refine (FF11.out _ _ ?_ HV11.out).mono ?_)
           · rfl
           go_loud (
           rintro e' v12 ⟨rfl, hb8⟩
           have HV12 := Lib.hid (HV11.out.trans (hb8.mono HV11.out.size))
           clear hb8))
        | (go_at_call 22
           (with_reducible refine (FF12.out _ _ ?_ HV12.out).mono ?_)
           · rfl
           go_loud (
           rintro e' v13 ⟨rfl, hb8⟩
           have HV13 := Lib.hid (HV12.out.trans (hb8.mono HV12.out.size))
           clear hb8))
        | (go_at_call 22
           (with_reducible refine (FF13.out _ _ ?_ HV13.out).mono ?_)
           · rfl
           go_loud (
           rintro e' v14 ⟨rfl, hb8⟩
           have HV14 := Lib.hid (HV13.out.trans (hb8.mono HV13.out.size))
           clear hb8)))
      go_ret
      exact ⟨rfl, HV14.out⟩
end Go.Proofs.YtjiilmiikejnhaaDoor

/-
  EntryWith: a list with an entry has it, and all others as they were, in order; order does not matter.
-/
import Derived.Test.YtfnmmnbndfdpiaaEWorks
import Derived.Test.YtfnmmnbndfdpiaaEWMath
import Derived.Test.YtfnmmnbndfdpiaaERegion2
import Derived.Deep.DeepCutAuto
import Derived.Deep.QuietTactic
import Derived.BigQuiet
namespace Go.Proofs.Ytfnmmnbndfdpiaa
open Go.RowKit Go.Sort

theorem below_drewN' {w0 w : World} {n : Nat} (h : RowKit.Below w0.heap.size w0 w) : RowKit.Below w0.heap.size w0 (w.drewN n) := h.trans ⟨rfl, rfl, rfl, Nat.le_refl _, fun _ _ => rfl⟩

theorem word_sz {x : ByteArray} (h : wordT x = true) : x.size ≤ 255 := by
  unfold wordT Plain.isWord at h
  rw [ba_length] at h
  exact (of_decide_eq_true h).2

set_option maxHeartbeats 4000000 in
set_option maxRecDepth 100000 in
theorem entryWith_walk (l : List Draft) (a b : Draft) (vl va vb : Value) (w : World) (hl : Drafts w vl l) (ha : DraftV w va a) (hb : DraftV w vb b) (_hwa : a.weight < 4294967296) (_hwb : b.weight < 4294967296)
    (hll : l.length ≤ 9223372036854775807) (hla : a.letters.length ≤ 9223372036854775807) (hlb : b.letters.length ≤ 9223372036854775807) :
    Calls Try.prog 6 #[vl, va, vb] w fun e w' => e = .returned (.bool true) ∧ RowKit.Below w.heap.size w w' := by
  have HL := Lib.hid hl
  have HA := Lib.hid ha
  have HB := Lib.hid hb
  obtain ⟨_, rfl, ada, ca, rfl, _⟩ := ha.lets
  obtain ⟨_, rfl, adb, cb, rfl, _⟩ := hb.lets
  clear hl ha hb
  have q18 : ∀ W, RowKit.Below w.heap.size w W → Calls Try.prog 18 #[vl, .int .i64 50] W fun e w' => ∃ v', e = .returned v' ∧ RowE w' v' (entriesT l 50) ∧ RowKit.Below W.heap.size W w' := fun W h => entries_any l vl 50 W (HL.out.below h) (by omega) hll
  have q28a := fun W (h : RowKit.Below w.heap.size w W) => draft_any a _ W (HA.out.below h) hla
  have q28b := fun W (h : RowKit.Below w.heap.size w W) => draft_any b _ W (HB.out.below h) hlb
  obtain ⟨xw, hxw⟩ := draftE_size a
  obtain ⟨yw, hyw⟩ := draftE_size b
  have X1 := Lib.hid (draftE_word a)
  have X2 := Lib.hid (draftE_bare a)
  have Y2 := Lib.hid (draftE_bare b)
  have EW := Lib.hid (entries_words l 50)
  have hel := entriesT_length l 50
  obtain ⟨X, hX⟩ : ∃ X, draftE a = X := ⟨_, rfl⟩
  obtain ⟨Y, hY⟩ : ∃ X, draftE b = X := ⟨_, rfl⟩
  obtain ⟨E, hE⟩ : ∃ X, entriesT l 50 = X := ⟨_, rfl⟩
  rw [hX] at q28a xw hxw X1 X2
  rw [hY] at q28b yw hyw Y2
  rw [hE] at q18 EW hel
  unfold enc at q28a q28b
  have Q28a := Lib.hid q28a
  have Q28b := Lib.hid q28b
  have Q18 := Lib.hid q18
  have q24 := fun ve W (h : Ents W ve E) => with_any [] E _ ve W rfl bared_nil (rowE_nil W) h (by simp) (by omega)
  have O1 := Lib.hid (withT_rising (l := []) rfl E)
  have O2 := Lib.hid (withT_bared bared_nil E)
  have O3 := withT_length [] E
  have O4 := Lib.hid (words_with (l := []) (es := E) (fun e he => by cases he) EW.out)
  obtain ⟨O, hO⟩ : ∃ X, withT [] E = X := ⟨_, rfl⟩
  rw [hO] at q24 O1 O2 O3 O4
  rw [List.length_nil] at O3
  have Q24 := Lib.hid q24
  clear hX hY hE hO q28a q28b q18 q24
  obtain ⟨na, hna⟩ : ∃ n, a.weight = n := ⟨_, rfl⟩
  obtain ⟨nb, hnb⟩ : ∃ n, b.weight = n := ⟨_, rfl⟩
  obtain ⟨ga, hga⟩ : ∃ n, a.gone = n := ⟨_, rfl⟩
  obtain ⟨gb, hgb⟩ : ∃ n, b.gone = n := ⟨_, rfl⟩
  rw [hna, hga] at Q28a ⊢
  rw [hnb, hgb] at Q28b ⊢
  clear hna hnb hga hgb HA HB HL
  have hw0 : RowKit.Below w.heap.size w ((w.alloc (.cells #[.slice ada a.letters.length ca, .int .u32 (na : Int), .bool ga] 51)).alloc (.cells #[.slice adb b.letters.length cb, .int .u32 (nb : Int), .bool gb] 51)) := below_two_allocs _ _ _
  go_enter Try.func6, Try.ntmps6
  go_upto_region 4 with (first
    | (go_at_call 16; (with_reducible refine (works_any _).mono ?_); rintro e w1 ⟨rfl, hb1⟩)
    | (go_at_call 18; (with_reducible refine (Q18.out _ (Below.next hw0 hb1)).mono ?_); rintro e w2 ⟨v2, rfl, r2, hb2⟩; have HR2 := Lib.hid r2.ents; clear r2)
    | (go_at_call 24; (with_reducible refine (Q24.out _ _ HR2.out).mono ?_); rintro e w3 ⟨v3, rfl, r3, hb3⟩; obtain ⟨ad, c, rfl, hc1, hc2, _⟩ := id r3; have HO := Lib.hid r3; clear r3))
  generalize hW0 : (w.alloc (.cells #[.slice ada a.letters.length ca, .int .u32 (na : Int), .bool ga] 51)).alloc (.cells #[.slice adb b.letters.length cb, .int .u32 (nb : Int), .bool gb] 51) = W0 at hb1 hw0
  have hz0 : W0.heap.size = w.heap.size + 2 := by rw [← hW0]; simp
  have HBX : Hid (∀ W, RowKit.Below W0.heap.size W0 W → (W.cell? ⟨w.heap.size, 0, none⟩ = some (.slice ada a.letters.length ca) ∧ W.cell? ⟨w.heap.size, 1, none⟩ = some (.int .u32 (na : Int)) ∧ W.cell? ⟨w.heap.size, 2, none⟩ = some (.bool ga)) ∧
      (W.cell? ⟨w.heap.size + 1, 0, none⟩ = some (.slice adb b.letters.length cb) ∧ W.cell? ⟨w.heap.size + 1, 1, none⟩ = some (.int .u32 (nb : Int)) ∧ W.cell? ⟨w.heap.size + 1, 2, none⟩ = some (.bool gb))) := Lib.hid fun W hW => by
    have f : ∀ b o, b < w.heap.size + 2 → W.cell? ⟨b, o, none⟩ = W0.cell? ⟨b, o, none⟩ := fun b o h => hW.cell (p := ⟨b, o, none⟩) (by rw [hz0]; exact h)
    refine ⟨⟨?_, ?_, ?_⟩, ?_, ?_, ?_⟩
    all_goals (rw [f _ _ (by omega), ← hW0]; simp)
  clear hW0
  have hb03 := Below.next hb1 (Below.next hb2 hb3)
  have hbw3 := Below.next hw0 hb03
  refine region_drafts (fun j => [30, 31, 32, 33, 8, 9].getD j 0) 4 5 _ _ _ _ _ _ _ _ w.heap.size (w.heap.size + 1) (.slice ada a.letters.length ca) (.int .u32 (na : Int)) (.bool ga) (.slice adb b.letters.length cb) (.int .u32 (nb : Int)) (.bool gb) X Y _ _ rfl (by decide) (by decide) (by decide) (by decide) (by kernel_rfl) (by decide) (show ∀ i, i < 6 → [30, 31, 32, 33, 8, 9].getD i 0 < 194 by decide) rfl rfl (by decide) (by decide)
    (fun W h => (HBX.out _ (Below.next hb03 h)).1) (fun W h => (HBX.out _ (Below.next hb03 h)).2) (fun W h => Q28a.out _ (Below.next hbw3 h)) (fun W h => Q28b.out _ (Below.next hbw3 h)) ?_
  intro g g' w4 hb4 hgg hg hg' hbx hby
  unfold boxE
  simp only [List.getD_cons_zero, List.getD_cons_succ, Act.put]
  have hbw4 := Below.next hbw3 hb4
  have HGX : Hid (∀ W, RowKit.Below w4.heap.size w4 W → (W.cell? ⟨g, 0, none⟩ = some (.string X.word) ∧ W.cell? ⟨g, 1, none⟩ = some (.int .u32 (X.weight : Int)) ∧ W.cell? ⟨g, 2, none⟩ = some (.bool X.gone)) ∧ g < W.heap.size ∧ g ≠ W.heap.size) := Lib.hid fun W h =>
    ⟨(hbx.below h).cells, (hbx.below h).lt, Nat.ne_of_lt (hbx.below h).lt⟩
  have HGY : Hid (∀ W, RowKit.Below w4.heap.size w4 W → (W.cell? ⟨g', 0, none⟩ = some (.string Y.word) ∧ W.cell? ⟨g', 1, none⟩ = some (.int .u32 (Y.weight : Int)) ∧ W.cell? ⟨g', 2, none⟩ = some (.bool Y.gone)) ∧ g' < W.heap.size ∧ g' ≠ W.heap.size) := Lib.hid fun W h =>
    ⟨(hby.below h).cells, (hby.below h).lt, Nat.ne_of_lt (hby.below h).lt⟩
  have HBXX : Hid (∀ W, RowKit.Below w4.heap.size w4 W → Box W g X) := Lib.hid fun W h => hbx.below h
  have HBYY : Hid (∀ W, RowKit.Below w4.heap.size w4 W → Box W g' Y) := Lib.hid fun W h => hby.below h
  have HO4 : Hid (∀ W, RowKit.Below w4.heap.size w4 W → RowE W (.slice ad O.length c) O) := Lib.hid fun W h => HO.out.below (Below.next hb4 h)
  clear hbx hby HO HR2 Q18 Q24 Q28a Q28b HBX
  obtain ⟨⟨k0, k1, k2⟩, kl, kn⟩ := HGX.out w4 (RowKit.Below.refl _ _)
  -- what the list with X is
  have M1 := Lib.hid (withT_rising O1.out [X])
  have M2 := length_put O1.out X
  have M3 : Hid (checkE (withT O [X]) = (-1, 0)) := Lib.hid (check_ok M1.out (words_with O4.out (fun e he => by simp at he; rw [he]; exact X1.out)))
  have M4 := Lib.hid (found_put O1.out X2.out)
  have M6 : Hid (∀ y ∈ O, isE (withT O [X]) (key y) = true ∧ (key X ≠ key y → findE (withT O [X]) (key y) = some y)) := Lib.hid fun y hy => ⟨found_is O1.out X2.out hy, fun h => found_other O1.out X2.out hy h⟩
  have M7 := Lib.hid (withT_bared O2.out [X])
  rw [show putE O X = withT O [X] by rw [withT_one, X2.out]] at M2
  have q24m := fun ve W (h : RowKit.Below w4.heap.size w4 W) (h2 : Ents W ve [X]) => with_any O [X] _ ve W O1.out O2.out (HO4.out _ h) h2 (by omega) (by simp)
  have S1 : Hid (key X ≠ key Y → withT O [X, Y] = withT O [Y, X]) := Lib.hid fun h => with_swap O1.out X2.out Y2.out h
  have S2 : Hid (key X = key Y → withT O [X, Y] = withT O [Y]) := Lib.hid fun h => with_last O1.out X2.out Y2.out h
  have M5 : Hid (ShortE (withT O [X])) := Lib.hid fun y hy => by
    have := word_sz (words_with O4.out (es := [X]) (fun e he => by simp at he; rw [he]; exact X1.out) y hy)
    omega
  obtain ⟨M, hM⟩ : ∃ Z, withT O [X] = Z := ⟨_, rfl⟩
  rw [hM] at M1 M2 M3 M4 M5 M6 M7 q24m
  have hml : M.length ≤ 60 := by rw [M2]; split <;> omega
  have Q24m := Lib.hid q24m
  have Q19 : Hid (∀ v W, Ents W v M → Calls Try.prog 19 #[v] W fun e w' => e = .returned (.tuple #[.int .i64 (-1), .int .i64 0]) ∧ RowKit.Below W.heap.size W w') := Lib.hid fun v W h => by
    have := entCheck_any M v W h M5.out (by omega)
    rw [M3.out] at this
    exact this
  have Q26m : Hid (∀ v W, Ents W v M → Calls Try.prog 26 #[v, .string X.word] W fun e w' => e = .returned (.tuple #[.agg #[.string X.word, .int .u32 (X.weight : Int), .bool X.gone], .bool true]) ∧ RowKit.Below W.heap.size W w') := Lib.hid fun v W h => by
    have := find_any M v X.word W M1.out h (by omega)
    rw [show foundT M X.word.data.toList = X by unfold foundT; rw [show X.word.data.toList = key X from rfl, M4.out]; rfl, X2.out, show isE M X.word.data.toList = true by unfold isE; rw [show X.word.data.toList = key X from rfl, M4.out]; rfl] at this
    exact this
  have q26o := fun W (h : RowKit.Below w4.heap.size w4 W) => find_any O _ X.word W O1.out (HO4.out W h).ents (by omega)
  obtain ⟨f, hf⟩ : ∃ f, bare (foundT O X.word.data.toList) = f := ⟨_, rfl⟩
  obtain ⟨t, ht⟩ : ∃ f, isE O X.word.data.toList = f := ⟨_, rfl⟩
  rw [hf, ht] at q26o
  rw [show key X = X.word.data.toList from rfl, ht] at M2
  unfold enc at q26o
  have Q26o := Lib.hid q26o
  have d1 : decide ((O.length : Int) + 1 < (M.length : Int)) = false := decide_eq_false (by rw [M2]; split <;> omega)
  have d2 : ((M.length : Int) == (O.length : Int)) = t := by
    cases t with
    | true => rw [if_pos rfl] at M2; rw [M2]; simp
    | false => rw [if_neg (by simp)] at M2; rw [M2, beq_eq_false_iff_ne]; omega
  clear hM hf ht M2 M3 M4 M5 q24m q26o
  have hol : O.length ≤ 50 := by omega
  clear O3 hel
  go_simp
  go_wp2_with (first
    | (go_at_call 24; (with_reducible refine (Q24m.out _ _ (below_alloc w4 _) (ents_single rfl)).mono ?_); rintro e w5 ⟨v5, rfl, r5, hb5⟩; obtain ⟨adm, cm, rfl, hcm1, hcm2, _⟩ := id r5; have HM := Lib.hid r5; clear r5; have hb5 := Below.next (below_alloc w4 _) hb5; obtain ⟨⟨k0, k1, k2⟩, kl, kn⟩ := HGX.out _ hb5)
    | (go_at_call 19; (with_reducible refine (Q19.out _ _ HM.out.ents).mono ?_); rintro e w6 ⟨rfl, hb6⟩; have HM6 := Lib.hid (HM.out.below hb6); have hb6 := Below.next hb5 hb6; obtain ⟨⟨k0, k1, k2⟩, kl, kn⟩ := HGX.out _ hb6)
    | (go_at_call 26; (with_reducible refine (Q26m.out _ _ HM6.out.ents).mono ?_); rintro e w7 ⟨rfl, hb7⟩; have HM7 := Lib.hid (HM6.out.below hb7); have hb7 := Below.next hb6 hb7; obtain ⟨⟨k0, k1, k2⟩, kl, kn⟩ := HGX.out _ hb7)
    | (go_at_call 26; (with_reducible refine (Q26o.out _ (below_alloc' hb7)).mono ?_); rintro e w8 ⟨rfl, hb8⟩; obtain ⟨m0, m1, m2⟩ := box_kept hb8; have HM8 := Lib.hid ((HM7.out.below (below_alloc w7 _)).below hb8); have hz8 : w7.heap.size < w8.heap.size := (by have := hb8.size; simp at this; omega); have hb8 := Below.next (below_alloc' hb7) hb8; obtain ⟨⟨k0, k1, k2⟩, kl, kn⟩ := HGX.out _ hb8))
  clear m0 m1 m2 k0 k1 k2 kl kn d1 d2
  have HOC : Hid (∀ W, RowKit.Below w4.heap.size w4 W → ∀ i, i < O.length → ∃ b o, ad = some ⟨b, o, none⟩ ∧ EntAt W b (o + i * 3) (ent O i)) := Lib.hid fun W h i hi => by
    obtain ⟨_, _, hv, hc⟩ := ents_cell (HO4.out W h).ents
    cases hv
    exact hc i hi
  have HMC : Hid (∀ W, RowKit.Below w8.heap.size w8 W → RowE W (.slice adm M.length cm) M) := Lib.hid fun W h => HM8.out.below h
  go_loopw [17] (fun s17 wr => ∃ k : Nat, k ≤ O.length ∧ s17 = .int .i64 k ∧ RowKit.Below w8.heap.size w8 wr) (fun s17 _ => O.length - (intOf s17).toNat)
  case atStart => exact ⟨0, Nat.zero_le _, rfl, below_alloc w8 _⟩
  case round =>
    obtain ⟨k, hk, rfl, hb⟩ := hrel
    by_cases hlt : k < O.length
    · obtain ⟨b, o, rfl, _⟩ := HOC.out _ (Below.next hb8 hb) k hlt
      have HOK : Hid (∀ W, RowKit.Below w4.heap.size w4 W → (W.cell? ⟨b, o + k * 3, none⟩ = some (.string (ent O k).word) ∧ W.cell? ⟨b, o + k * 3 + 1, none⟩ = some (.int .u32 ((ent O k).weight : Int)) ∧ W.cell? ⟨b, o + k * 3 + 2, none⟩ = some (.bool (ent O k).gone)) ∧ b < W.heap.size) := Lib.hid fun W h => by
        obtain ⟨b', o', ha, hE⟩ := HOC.out W h k hlt
        cases ha
        exact ⟨⟨hE.1, hE.2.1, hE.2.2⟩, block_lt_of_cell hE.1⟩
      have hm6 := M6.out (ent O k) (ent_mem hlt)
      obtain ⟨y, hy⟩ : ∃ y, ent O k = y := ⟨_, rfl⟩
      rw [hy] at HOK hm6
      clear hy
      have q26 := fun W (h : RowKit.Below w8.heap.size w8 W) => find_any M _ y.word W M1.out (HMC.out W h).ents (by omega)
      rw [show isE M y.word.data.toList = true from hm6.1] at q26
      have hff : key X ≠ key y → bare (foundT M y.word.data.toList) = y := fun h => by
        have h2 := hm6.2 h
        unfold foundT
        rw [show y.word.data.toList = key y from rfl, h2]
        exact M7.out y (findE_some h2).1
      obtain ⟨z, hz⟩ : ∃ z, bare (foundT M y.word.data.toList) = z := ⟨_, rfl⟩
      rw [hz] at q26 hff
      unfold enc at q26
      have Q26 := Lib.hid q26
      clear hz q26 hm6
      obtain ⟨⟨c0, c1, c2⟩, hbl⟩ := HOK.out _ (Below.next hb8 hb)
      by_cases hxy : key X = key y
      · have hw : y.word = X.word := (key_word hxy).symm
        rw [hw] at HOK c0 Q26
        clear hff hxy hw
        go_upto_region 17 with (go_at_call 26; (with_reducible refine (Q26.out _ hb).mono ?_); rintro e w9 ⟨rfl, hb9⟩; have hb := Below.next hb hb9; obtain ⟨⟨c0, c1, c2⟩, hbl⟩ := HOK.out _ (Below.next hb8 hb); obtain ⟨⟨k0, k1, k2⟩, kl, kn⟩ := HGX.out _ (Below.next hb8 hb))
        have hbn := Nat.ne_of_lt hbl
        go_quiet (fail)
        go_wp2
        exact ⟨⟨k + 1, by omega, by go_num, below_drewN' (below_alloc' hb)⟩, by simp [intOf]; omega⟩
      · have hw : (y.word.toList == X.word.toList) = false := by
          rw [toList_beq]; exact decide_eq_false (fun h => hxy (by unfold key; rw [h]))
        obtain rfl := hff hxy
        clear hff hxy
        go_upto_region 17 with (go_at_call 26; (with_reducible refine (Q26.out _ hb).mono ?_); rintro e w9 ⟨rfl, hb9⟩; have hb := Below.next hb hb9; obtain ⟨⟨c0, c1, c2⟩, hbl⟩ := HOK.out _ (Below.next hb8 hb); obtain ⟨⟨k0, k1, k2⟩, kl, kn⟩ := HGX.out _ (Below.next hb8 hb))
        have hbn := Nat.ne_of_lt hbl
        go_quiet (fail)
        go_wp2
        exact ⟨⟨k + 1, by omega, by go_num, below_drewN' (below_alloc' hb)⟩, by simp [intOf]; omega⟩
    · have hb48 := Below.next hb8 hb
      go_upto_region 19 with fail
      refine region_both (fun j => [123, 124, 125, 126, 127, 128, 129, 130, 131, 132, 20, 21].getD j 0) 7 8 9 _ _ _ _ _ _ _ _ _ _ _ _ g g' O _ X Y _ _ rfl (by decide) (by decide) (by kernel_rfl) (by kernel_rfl) (by decide) (show ∀ i, i < 12 → [123, 124, 125, 126, 127, 128, 129, 130, 131, 132, 20, 21].getD i 0 < 194 by decide) rfl rfl rfl (by decide) (by decide) (by decide)
        (fun W h => HBXX.out W (Below.next hb48 h)) (fun W h => HBYY.out W (Below.next hb48 h)) (fun W h => HO4.out W (Below.next hb48 h)) O1.out O2.out (by omega) ?_
      intro v wq hbq hF
      have f10 : RowE wq (v 10) (withT O [X, Y]) := hF 10 (by omega)
      have f11 : RowE wq (v 11) (withT O [Y, X]) := hF 11 (by omega)
      simp only [puts, List.getD_cons_zero, List.getD_cons_succ, Act.put]
      generalize v 10 = v10 at f10 ⊢
      generalize v 11 = v11 at f11 ⊢
      generalize v 0 = v0
      generalize v 1 = v1
      generalize v 2 = v2
      generalize v 3 = v3
      generalize v 4 = v4
      generalize v 5 = v5
      generalize v 6 = v6
      generalize v 7 = v7
      generalize v 8 = v8
      generalize v 9 = v9
      clear hF
      have hbq4 := Below.next hb48 hbq
      have hlx := withT_length O [X, Y]
      obtain ⟨⟨k0, k1, k2⟩, kl, kn⟩ := HGX.out _ hbq4
      obtain ⟨⟨j0, j1, j2⟩, jl, jn⟩ := HGY.out _ hbq4
      have HF10 := Lib.hid f10
      have HF11 := Lib.hid f11
      clear f10 f11
      go_simp
      have Q22 : Hid (∀ W, RowKit.Below w8.heap.size w8 W → Calls Try.prog 22 #[.slice adm M.length cm] W fun e w' => ∃ v', e = .returned v' ∧ w'.ownsRow W.heap.size 24 3 v' (liveT M).length (ents (liveT M)) ∧ RowKit.Below W.heap.size W w') := Lib.hid fun W h => live_any M _ W (HMC.out W h).ents (by omega)
      have hlv := liveT_length M
      have hb8q := Below.next hb hbq
      have fin2 : Hid (∀ W, RowKit.Below w4.heap.size w4 W → RowKit.Below w.heap.size w W) := Lib.hid fun W h => Below.next hbw4 h
      go_upto_region 20 with fail
      go_cut [159] (fun s159 wx => s159 = .bool false ∧ RowKit.Below w8.heap.size w8 wx)
      case first =>
        by_cases hxy : key X = key Y
        · have hw : X.word = Y.word := key_word hxy
          have h2 := S2.out hxy
          rw [h2] at HF10
          have q24 := fun ve W (h : RowKit.Below w4.heap.size w4 W) (h2 : Ents W ve [Y]) => with_any O [Y] _ ve W O1.out O2.out (HO4.out _ h) h2 (by omega) (by simp)
          have hl1 := withT_length O [Y]
          obtain ⟨Z, hZ⟩ : ∃ Z, withT O [Y] = Z := ⟨_, rfl⟩
          rw [hZ] at q24 hl1 HF10
          simp only [List.length_cons, List.length_nil] at hl1
          have Q24 := Lib.hid q24
          rw [hw] at k0
          clear hxy hw h2 hZ q24 S1 S2 hlx
          go_wp2_with (first
            | (go_at_call 24; (with_reducible refine (Q24.out _ _ (below_alloc' hbq4) (ents_single rfl)).mono ?_); rintro e wr2 ⟨vr2, rfl, rr2, hbr2⟩; have HR2 := Lib.hid rr2.ents; clear rr2; have HF := Lib.hid ((HF10.out.below (below_alloc wq _)).below hbr2))
            | (go_at_call 21; (with_reducible refine (same_true _ _ _ _ HF.out.ents HR2.out (by omega)).mono ?_); rintro e wr3 ⟨rfl, hbr3⟩; have hbl := Below.next (below_alloc' hb8q) (Below.next hbr2 hbr3)))
          go_meet
          exact ⟨rfl, hbl⟩
        · have hw : (X.word.toList == Y.word.toList) = false := by
            rw [toList_beq]; exact decide_eq_false (fun h => hxy (by unfold key; rw [h]))
          rw [S1.out hxy] at HF10 hlx
          obtain ⟨Z, hZ⟩ : ∃ Z, withT O [Y, X] = Z := ⟨_, rfl⟩
          rw [hZ] at HF10 HF11 hlx
          simp only [List.length_cons, List.length_nil] at hlx
          clear hxy hZ S1 S2
          go_wp2_with (go_at_call 21; (with_reducible refine (same_true _ _ _ _ HF10.out.ents HF11.out.ents (by omega)).mono ?_); rintro e wr3 ⟨rfl, hbr3⟩; have hbl := Below.next hb8q hbr3; obtain ⟨⟨k0, k1, k2⟩, kl, kn⟩ := HGX.out _ (Below.next hbq4 hbr3); obtain ⟨⟨j0, j1, j2⟩, jl, jn⟩ := HGY.out _ (Below.next hbq4 hbr3))
          go_meet
          exact ⟨rfl, hbl⟩
      case rest =>
      obtain ⟨rfl, hbl⟩ := hcut
      go_wp2_with (go_at_call 22; (with_reducible refine (Q22.out _ hbl).mono ?_); rintro e w22 ⟨v22, rfl, o22, hb22⟩; have HL22 := Lib.hid (ents_of_owns o22); clear o22; have hbl := Below.next hbl hb22)
      obtain ⟨adl, cl, rfl, hcl⟩ := ents_cell HL22.out
      have HCL := Lib.hid hcl
      have HBL := Lib.hid hbl
      clear hcl k0 k1 k2 j0 j1 j2
      go_loopw [23, 24] (fun s23 s24 wr => ∃ i : Nat, i ≤ M.length ∧ s24 = .int .i64 i ∧ s23 = .int .i64 ((liveT (M.take i)).length : Nat) ∧ RowKit.Below w22.heap.size w22 wr) (fun _ s24 _ => M.length - (intOf s24).toNat)
      case atStart => exact ⟨0, Nat.zero_le _, rfl, rfl, RowKit.Below.refl _ _⟩
      case round =>
        obtain ⟨i, hi, rfl, rfl, hb2⟩ := hrel
        by_cases hlt : i < M.length
        · obtain ⟨b, o, rfl, hE⟩ : ∃ b o, adm = some ⟨b, o, none⟩ ∧ EntAt wr b (o + i * 3) (ent M i) := by
            obtain ⟨_, _, hv, hc⟩ := ents_cell (HMC.out wr (Below.next HBL.out hb2)).ents
            cases hv
            exact hc i hlt
          have hsn := live_snoc M i hlt
          have hla := live_at M i hlt
          have hln := Nat.le_trans (liveT_length (M.take i)) (List.length_take_le _ _)
          obtain ⟨y, hy⟩ : ∃ y, ent M i = y := ⟨_, rfl⟩
          obtain ⟨L, hL⟩ : ∃ y, liveT (M.take i) = y := ⟨_, rfl⟩
          rw [hy] at hE hsn hla
          rw [hL] at hsn hla hln ⊢
          obtain ⟨c0, c1, c2⟩ := hE
          cases hg : y.gone with
          | true =>
            rw [hg] at c2
            rw [if_pos hg] at hsn
            have HS := Lib.hid hsn
            clear hsn hla hy hL
            go_wp2
            exact ⟨⟨i + 1, by omega, by go_num, by rw [HS.out], hb2⟩, by simp [intOf]; omega⟩
          | false =>
            rw [hg] at c2
            rw [if_neg (by rw [hg]; simp)] at hsn
            obtain ⟨l1, l2⟩ := hla hg
            obtain ⟨b', o', rfl, hE'⟩ := HCL.out _ l1
            rw [l2] at hE'
            obtain ⟨e0, e1, e2⟩ := hE'.below hb2
            rw [hg] at e2
            have d1 : decide (((liveT M).length : Int) ≤ (L.length : Int)) = false := decide_eq_false (by omega)
            have HS := Lib.hid hsn
            obtain ⟨k, hk⟩ : ∃ k, L.length = k := ⟨_, rfl⟩
            rw [hk] at l1 hln d1 e0 e1 e2 ⊢
            have HK := Lib.hid hk
            clear hsn hla hy hL l2 hk hE'
            go_upto_region 27 with fail
            go_quiet (fail)
            go_wp2
            exact ⟨⟨i + 1, by omega, by go_num, by rw [HS.out, List.length_append, HK.out]; go_num, below_drewN' hb2⟩, by simp [intOf]; omega⟩
        · obtain rfl : i = M.length := by omega
          rw [List.take_length]
          go_wp2
          go_ret
          exact ⟨rfl, fin2.out _ (Below.next hb8 (Below.next HBL.out hb2))⟩
end Go.Proofs.Ytfnmmnbndfdpiaa

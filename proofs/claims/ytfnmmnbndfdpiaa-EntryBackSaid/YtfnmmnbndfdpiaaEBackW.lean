/-
  EntryBack: entries come back from their bytes, and from their values; what is read is laid just so.
-/
import Derived.Test.YtfnmmnbndfdpiaaEWorks
import Derived.Test.YtfnmmnbndfdpiaaEDMath
import Derived.Test.YtfnmmnbndfdpiaaERegion
import Derived.Deep.DeepCutAuto
import Derived.Deep.QuietTactic
import Derived.Deep.RegionHeld3
namespace Go.Proofs.Ytfnmmnbndfdpiaa
open Go.RowKit Go.Sort

theorem three_str (a b c : Value) (k : Nat) (v : Value) (h : (k = 0 ∧ v = a) ∨ (k = 1 ∧ v = b) ∨ (k = 2 ∧ v = c)) (w : World) : (Instr.index 54 (.agg #[a, b, c]) (.int .i64 (k : Int))).run Try.prog w = .ok v w := by
  rcases h with ⟨rfl, rfl⟩ | ⟨rfl, rfl⟩ | ⟨rfl, rfl⟩ <;> kernel_rfl

theorem wordT_size {x : ByteArray} (h : wordT x = true) : 1 ≤ x.size ∧ x.size ≤ 255 := by
  unfold wordT Plain.isWord at h
  rw [ba_length] at h
  exact of_decide_eq_true h

theorem box_set {w : World} {g : Nat} {e x : Ent} (h : Box w g e) : Box (((w.setCell ⟨g, 0, none⟩ (.string x.word)).setCell ⟨g, 1, none⟩ (.int .u32 (x.weight : Int))).setCell ⟨g, 2, none⟩ (.bool x.gone)) g x :=
  cells_setCell (cells_setCell (cells_setCell h 0 _) 1 _) 2 _

set_option maxHeartbeats 4000000 in
set_option maxRecDepth 100000 in
theorem entryBack_walk (a b : Draft) (s : ByteArray) (va vb : Value) (w : World) (ha : DraftV w va a) (hb : DraftV w vb b) (hwa : a.weight < 4294967296) (hwb : b.weight < 4294967296)
    (hla : a.letters.length ≤ 9223372036854775807) (hlb : b.letters.length ≤ 9223372036854775807) (hs : s.size ≤ 9223372036854775807) :
    Calls Try.prog 5 #[va, vb, .string s] w fun e w' => e = .returned (.bool true) ∧ RowKit.Below w.heap.size w w' := by
  have HA := Lib.hid ha
  have HB := Lib.hid hb
  obtain ⟨_, rfl, ada, ca, rfl, _⟩ := ha.lets
  obtain ⟨_, rfl, adb, cb, rfl, _⟩ := hb.lets
  clear ha hb
  have q28a := fun W (h : RowKit.Below w.heap.size w W) => draft_any a _ W (HA.out.below h) hla
  have q28b := fun W (h : RowKit.Below w.heap.size w W) => draft_any b _ W (HB.out.below h) hlb
  obtain ⟨xw, hxw⟩ := draftE_size a
  obtain ⟨yw, hyw⟩ := draftE_size b
  have X1 := Lib.hid (draftE_word a)
  have X2 := Lib.hid (draftE_bare a)
  have X3 := draftE_weight hwa
  have Y1 := Lib.hid (draftE_word b)
  have Y2 := Lib.hid (draftE_bare b)
  have Y3 := draftE_weight hwb
  obtain ⟨X, hX⟩ : ∃ X, draftE a = X := ⟨_, rfl⟩
  obtain ⟨Y, hY⟩ : ∃ X, draftE b = X := ⟨_, rfl⟩
  rw [hX] at q28a xw hxw X1 X2 X3
  rw [hY] at q28b yw hyw Y1 Y2 Y3
  unfold enc at q28a q28b
  have Q28a := Lib.hid q28a
  have Q28b := Lib.hid q28b
  clear hX hY q28a q28b
  obtain ⟨na, hna⟩ : ∃ n, a.weight = n := ⟨_, rfl⟩
  obtain ⟨nb, hnb⟩ : ∃ n, b.weight = n := ⟨_, rfl⟩
  obtain ⟨ga, hga⟩ : ∃ n, a.gone = n := ⟨_, rfl⟩
  obtain ⟨gb, hgb⟩ : ∃ n, b.gone = n := ⟨_, rfl⟩
  rw [hna, hga] at Q28a ⊢
  rw [hnb, hgb] at Q28b ⊢
  clear hna hnb hga hgb HA HB
  go_enter Try.func5, Try.ntmps5
  go_upto_region 3 with (go_at_call 16; (with_reducible refine (works_any _).mono ?_); rintro e w1 ⟨rfl, hb1⟩)
  generalize hW0 : (w.alloc (.cells #[.slice ada a.letters.length ca, .int .u32 (na : Int), .bool ga] 51)).alloc (.cells #[.slice adb b.letters.length cb, .int .u32 (nb : Int), .bool gb] 51) = W0 at hb1
  have hbw0 : RowKit.Below w.heap.size w W0 := by rw [← hW0]; exact below_two_allocs _ _ _
  have hz0 : W0.heap.size = w.heap.size + 2 := by rw [← hW0]; simp
  have HBX : Hid (∀ W, RowKit.Below W0.heap.size W0 W → (W.cell? ⟨w.heap.size, 0, none⟩ = some (.slice ada a.letters.length ca) ∧ W.cell? ⟨w.heap.size, 1, none⟩ = some (.int .u32 (na : Int)) ∧ W.cell? ⟨w.heap.size, 2, none⟩ = some (.bool ga)) ∧
      (W.cell? ⟨w.heap.size + 1, 0, none⟩ = some (.slice adb b.letters.length cb) ∧ W.cell? ⟨w.heap.size + 1, 1, none⟩ = some (.int .u32 (nb : Int)) ∧ W.cell? ⟨w.heap.size + 1, 2, none⟩ = some (.bool gb))) := Lib.hid fun W hW => by
    have f : ∀ b o, b < w.heap.size + 2 → W.cell? ⟨b, o, none⟩ = W0.cell? ⟨b, o, none⟩ := fun b o h => hW.cell (p := ⟨b, o, none⟩) (by rw [hz0]; exact h)
    refine ⟨⟨?_, ?_, ?_⟩, ?_, ?_, ?_⟩
    all_goals (rw [f _ _ (by omega), ← hW0]; simp)
  clear hW0
  have hbw1 := Below.next hbw0 hb1
  obtain ⟨⟨k0, k1, k2⟩, k3, k4, k5⟩ := HBX.out _ hb1
  refine region_drafts (fun j => [23, 24, 25, 26, 7, 8].getD j 0) 3 4 _ _ _ _ _ _ _ _ w.heap.size (w.heap.size + 1) (.slice ada a.letters.length ca) (.int .u32 (na : Int)) (.bool ga) (.slice adb b.letters.length cb) (.int .u32 (nb : Int)) (.bool gb) X Y _ _ rfl (by decide) (by decide) (by decide) (by decide) (by kernel_rfl) (by decide) (show ∀ i, i < 6 → [23, 24, 25, 26, 7, 8].getD i 0 < 139 by decide) rfl rfl (by decide) (by decide)
    (fun W h => (HBX.out _ (Below.next hb1 h)).1) (fun W h => (HBX.out _ (Below.next hb1 h)).2) (fun W h => Q28a.out _ (Below.next hbw1 h)) (fun W h => Q28b.out _ (Below.next hbw1 h)) ?_
  intro g g' w4 hb4 hgg hg hg' hbx hby
  unfold boxE
  simp only [List.getD_cons_zero, List.getD_cons_succ, Act.put]
  have HGX : Hid (∀ W, RowKit.Below w4.heap.size w4 W → (W.cell? ⟨g, 0, none⟩ = some (.string X.word) ∧ W.cell? ⟨g, 1, none⟩ = some (.int .u32 (X.weight : Int)) ∧ W.cell? ⟨g, 2, none⟩ = some (.bool X.gone)) ∧ g < W.heap.size ∧ g ≠ W.heap.size) := Lib.hid fun W h =>
    ⟨(hbx.below h).cells, (hbx.below h).lt, Nat.ne_of_lt (hbx.below h).lt⟩
  have HGY : Hid (∀ W, RowKit.Below w4.heap.size w4 W → (W.cell? ⟨g', 0, none⟩ = some (.string Y.word) ∧ W.cell? ⟨g', 1, none⟩ = some (.int .u32 (Y.weight : Int)) ∧ W.cell? ⟨g', 2, none⟩ = some (.bool Y.gone)) ∧ g' < W.heap.size ∧ g' ≠ W.heap.size) := Lib.hid fun W h =>
    ⟨(hby.below h).cells, (hby.below h).lt, Nat.ne_of_lt (hby.below h).lt⟩
  have hbw4 := Below.next hbw1 hb4
  obtain ⟨⟨k0, k1, k2⟩, kl, kn⟩ := HGX.out w4 (RowKit.Below.refl _ _)
  obtain ⟨⟨j0, j1, j2⟩, jl, jn⟩ := HGY.out w4 (RowKit.Below.refl _ _)
  have q8x := fun W => eput_any X W X3 (by omega)
  have q8y := fun W => eput_any Y W Y3 (by omega)
  have gpx := get_put X X1.out X3 X2.out
  have gpy := get_put Y Y1.out Y3 Y2.out
  have HINJ : Hid ((putT X).1 = (putT Y).1 → X = Y) := Lib.hid (put_inj X1.out Y1.out X3 Y3 X2.out Y2.out)
  have q10 := fun W => value_any X W X3
  have hov := of_value X3 X2.out
  have hvl : valueT X < 18446744073709551616 := by unfold valueT; split <;> omega
  have q14 := fun W => of_any X.word (valueT X) W hvl
  rw [hov] at q14
  have pxl : (putT X).1.length ≤ 400 := by
    have h1 := (Plain.size_bounds (n := X.weight) (by omega)).2
    have h2 : (key X).length ≤ 9 := by unfold key; rw [ba_length]; exact hxw
    unfold putT
    split
    · simp
    · split
      · simp; omega
      · simp [Plain.enc_length]; omega
  have pyl : (putT Y).1.length ≤ 400 := by
    have h1 := (Plain.size_bounds (n := Y.weight) (by omega)).2
    have h2 : (key Y).length ≤ 9 := by unfold key; rw [ba_length]; exact hyw
    unfold putT
    split
    · simp
    · split
      · simp; omega
      · simp [Plain.enc_length]; omega
  obtain ⟨PX, hPX⟩ : ∃ P, putT X = P := ⟨_, rfl⟩
  obtain ⟨PY, hPY⟩ : ∃ P, putT Y = P := ⟨_, rfl⟩
  obtain ⟨vx, hvx⟩ : ∃ v, valueT X = v := ⟨_, rfl⟩
  rw [hPX] at q8x gpx HINJ pxl
  rw [hPY] at q8y gpy HINJ pyl
  rw [hvx] at q10 q14
  obtain ⟨px, cx⟩ := PX
  obtain ⟨py, cy⟩ := PY
  simp only at gpx gpy HINJ pxl pyl
  obtain ⟨gx, rfl⟩ := gpx
  obtain ⟨gy, rfl⟩ := gpy
  have q29x : ∀ W, Calls Try.prog 29 #[.string (strO px), .agg (enc X).toArray, .int .i64 0] W fun e w' => e = .returned (.bool true) ∧ RowKit.Below W.heap.size W w' := fun W => getLaw_any (strO px) X 0 W (by rw [← ba_length, strO_key]; omega) (by rw [strO_key]; exact gx)
  have q29y : ∀ W, Calls Try.prog 29 #[.string (strO py), .agg (enc Y).toArray, .int .i64 0] W fun e w' => e = .returned (.bool true) ∧ RowKit.Below W.heap.size W w' := fun W => getLaw_any (strO py) Y 0 W (by rw [← ba_length, strO_key]; omega) (by rw [strO_key]; exact gy)
  have HPQ : Hid (strO px = strO py ↔ X = Y) := Lib.hid ⟨fun h => HINJ.out (by have := congrArg (fun z : ByteArray => z.data.toList) h; simpa [strO_key] using this), fun h => by subst h; rw [hPX] at hPY; cases hPY; rfl⟩
  obtain ⟨SX, hSX⟩ : ∃ P, strO px = P := ⟨_, rfl⟩
  obtain ⟨SY, hSY⟩ : ∃ P, strO py = P := ⟨_, rfl⟩
  unfold putE' at q8x q8y
  unfold ofE at q14
  rw [hSX] at q8x q29x HPQ
  rw [hSY] at q8y q29y HPQ
  unfold enc at q8x q8y q10 q14 q29x q29y
  simp only at q8x q8y q10 q14 q29x q29y
  have Q8x := Lib.hid q8x
  have Q8y := Lib.hid q8y
  have Q10 := Lib.hid q10
  have Q14 := Lib.hid q14
  have Q29x := Lib.hid q29x
  have Q29y := Lib.hid q29y
  clear hPX hPY hvx hov gx gy hSX hSY q8x q8y q10 q14 q29x q29y hbx hby HINJ
  go_simp
  go_upto_region 6 with (first
    | (go_at_call 8; (with_reducible refine (Q8x.out _).mono ?_); rintro e w5 ⟨rfl, hb5⟩; obtain ⟨⟨j0, j1, j2⟩, jl, jn⟩ := HGY.out _ hb5)
    | (go_at_call 8; (with_reducible refine (Q8y.out _).mono ?_); rintro e w6 ⟨rfl, hb6⟩; have hb6 := Below.next hb5 hb6; obtain ⟨⟨k0, k1, k2⟩, kl, kn⟩ := HGX.out _ hb6))
  have hb46 := hb6
  go_cut [13, 14] (fun s13 s14 wx => s14 = .bool true ∧ (∃ g3, s13 = .pointer (some ⟨g3, 0, none⟩) ∧ Box wx g3 X) ∧ RowKit.Below w4.heap.size w4 wx)
  case first =>
    have hz6 : w6.heap.size ≤ w6.heap.size := Nat.le_refl _
    have S0 := fun (W : World) (o : Nat) (v : Value) (h : RowKit.Below w6.heap.size w6 W) => h.setCell (p := ⟨w6.heap.size, o, none⟩) hz6 v
    go_region_held3 (fun W => W.cell? ⟨g, 0, none⟩ = some (.string X.word) ∧ W.cell? ⟨g, 1, none⟩ = some (.int .u32 (X.weight : Int)) ∧ W.cell? ⟨g, 2, none⟩ = some (.bool X.gone) ∧ RowKit.Below w6.heap.size w6 W)
      ((refine (fun hB => ⟨(HGX.out _ (Below.next hb6 hB)).1.1, (HGX.out _ (Below.next hb6 hB)).1.2.1, (HGX.out _ (Below.next hb6 hB)).1.2.2, hB⟩ : RowKit.Below w6.heap.size w6 _ → _) ?_; repeat (first | with_reducible exact RowKit.Below.refl _ _ | (with_reducible apply below_drew') | (with_reducible apply below_alloc') | (with_reducible apply N2) | (with_reducible apply N3) | (with_reducible apply S0) | (with_reducible apply S2) | (with_reducible apply S3))))
      (first
        | (go_at_call 10; (with_reducible refine Calls.mono (Q10.out _) ?_); rintro e w7 ⟨rfl, hb7⟩; have N2 := fun (u : World) (h : RowKit.Below u.heap.size u _) => Below.next h hb7; have hz7 : w6.heap.size ≤ w7.heap.size := Nat.le_trans (by first | exact Nat.le_refl _ | (simp; done) | (simp; omega)) hb7.size;
            have S2 := fun (W : World) (o : Nat) (v : Value) (h : RowKit.Below w6.heap.size w6 W) => h.setCell (p := ⟨w7.heap.size, o, none⟩) hz7 v; obtain ⟨hcA, hfA⟩ := bcell hb7; have hzA := hb7.size; (try simp at hzA); (try have hzF : w6.heap.size < w7.heap.size := (by omega)))
        | (go_at_call 14; (with_reducible refine Calls.mono (Q14.out _) ?_); rintro e w8 ⟨rfl, hb8⟩; have N3 := fun (u : World) (h : RowKit.Below u.heap.size u _) => Below.next h hb8; have hz8 : w6.heap.size ≤ w8.heap.size := Nat.le_trans hz7 (Nat.le_trans (by first | exact Nat.le_refl _ | (simp; done) | (simp; omega)) hb8.size);
            have S3 := fun (W : World) (o : Nat) (v : Value) (h : RowKit.Below w6.heap.size w6 W) => h.setCell (p := ⟨w8.heap.size, o, none⟩) hz8 v; obtain ⟨hcB, hfB⟩ := bcell hb8; have hzB := hb8.size; (try simp at hzB); (try have hzG : w7.heap.size < w8.heap.size := (by omega)); (try have hzH : w6.heap.size < w8.heap.size := (by omega))))
    all_goals
      go_wp2
      go_meet
      refine ⟨rfl, ⟨_, rfl, ?_⟩, Below.next hb6 ?_⟩
      · first
          | exact heap_alloc_new w8 _
          | exact box_set (Box.below (e := default) (heap_alloc_new w7 _) hb8)
          | exact box_set (Box.below (Box.below (w := (w6.alloc (.cells (boxE default) 24)).drew) (e := default) (heap_alloc_new w6 _) hb7) hb8)
      · repeat (first | with_reducible exact RowKit.Below.refl _ _ | (with_reducible apply below_drew') | (with_reducible apply below_alloc') | (with_reducible apply N2) | (with_reducible apply N3) | (with_reducible apply S0) | (with_reducible apply S2) | (with_reducible apply S3))
  case rest =>
  obtain ⟨rfl, ⟨g3, rfl, hbz⟩, hbc⟩ := hcut
  have HGZ : Hid (∀ W, RowKit.Below wc.heap.size wc W → (W.cell? ⟨g3, 0, none⟩ = some (.string X.word) ∧ W.cell? ⟨g3, 1, none⟩ = some (.int .u32 (X.weight : Int)) ∧ W.cell? ⟨g3, 2, none⟩ = some (.bool X.gone))) := Lib.hid fun W h => (hbz.below h).cells
  clear hbz k0 k1 k2 j0 j1 j2 kl kn jl jn
  obtain ⟨⟨k0, k1, k2⟩, _, _⟩ := HGX.out _ hbc
  have hcase : (∃ e1 : Bool, (SX.toList == SY.toList) = e1 ∧ ∀ W, Sem.run Try.prog (binOp .eql 24 (.agg #[.string X.word, .int .u32 (X.weight : Int), .bool X.gone]) (.agg #[.string Y.word, .int .u32 (Y.weight : Int), .bool Y.gone])) W = .ok (.bool e1) W) := by
    refine ⟨eqE X Y, ?_, fun W => run_eqE X Y W⟩
    rw [toList_beq, Bool.eq_iff_iff, decide_eq_true_eq, eqE_iff]
    exact HPQ.out
  obtain ⟨e1, d1, d2⟩ := hcase
  cases e1
  all_goals
    go_wp2_with (first
      | (go_at_call 29; (with_reducible refine (Q29x.out _).mono ?_); rintro e w9 ⟨rfl, hb9⟩; obtain ⟨⟨j0, j1, j2⟩, _, _⟩ := HGY.out _ (Below.next hbc hb9); obtain ⟨⟨k0, k1, k2⟩, _, _⟩ := HGX.out _ (Below.next hbc hb9))
      | (go_at_call 29; (with_reducible refine (Q29y.out _).mono ?_); rintro e w10 ⟨rfl, hb10⟩; have hb10 := Below.next hb9 hb10; obtain ⟨⟨j0, j1, j2⟩, _, _⟩ := HGY.out _ (Below.next hbc hb10); obtain ⟨⟨k0, k1, k2⟩, _, _⟩ := HGX.out _ (Below.next hbc hb10); obtain ⟨z0, z1', z2'⟩ := HGZ.out _ hb10))
    have hcut2 : (s.extract 0 (min (s.size : Int) 300).toNat).size ≤ 300 := by rw [ByteArray.size_extract]; omega
    have z1 : ((⟨#[1]⟩ : ByteArray) ++ s.extract 0 (min (s.size : Int) 300).toNat).size ≤ 1000000 := by rw [ByteArray.size_append]; show 1 + _ ≤ _; omega
    have z2 : ((⟨#[2]⟩ : ByteArray) ++ s.extract 0 (min (s.size : Int) 300).toNat).size ≤ 1000000 := by rw [ByteArray.size_append]; show 1 + _ ≤ _; omega
    generalize (⟨#[1]⟩ : ByteArray) ++ s.extract 0 (min (s.size : Int) 300).toNat = A at z1 ⊢
    generalize (⟨#[2]⟩ : ByteArray) ++ s.extract 0 (min (s.size : Int) 300).toNat = B at z2 ⊢
    generalize s.extract 0 (min (s.size : Int) 300).toNat = S at hcut2 ⊢
    have hbw : RowKit.Below w.heap.size w w10 := Below.next hbw4 (Below.next hbc hb10)
    clear k0 k1 k2 j0 j1 j2 z0 z1' z2'
    go_loopw [92] (fun s92 wr => ∃ k : Nat, k ≤ 3 ∧ s92 = .int .i64 k ∧ RowKit.Below w10.heap.size w10 wr) (fun s92 _ => 3 - (intOf s92).toNat)
    case atStart => exact ⟨0, by omega, rfl, RowKit.Below.refl _ _⟩
    case round =>
      obtain ⟨k, hk, rfl, hb⟩ := hrel
      by_cases hlt : k < 3
      · obtain ⟨T, hix, hT⟩ : ∃ T, ((k = 0 ∧ Value.string T = .string S) ∨ (k = 1 ∧ Value.string T = .string A) ∨ (k = 2 ∧ Value.string T = .string B)) ∧ T.size ≤ 1000000 := by
          rcases (show k = 0 ∨ k = 1 ∨ k = 2 by omega) with rfl | rfl | rfl
          · exact ⟨S, .inl ⟨rfl, rfl⟩, by omega⟩
          · exact ⟨A, .inr (.inl ⟨rfl, rfl⟩), z1⟩
          · exact ⟨B, .inr (.inr ⟨rfl, rfl⟩), z2⟩
        have x0 := fun W => three_str (.string S) (.string A) (.string B) k (.string T) hix W
        have q12 := fun W => eget_any T W hT
        obtain ⟨⟨z, c⟩, hz⟩ : ∃ r, getT T.data.toList = r := ⟨_, rfl⟩
        rw [hz] at q12
        unfold gotE enc at q12
        simp only at q12
        clear hix
        by_cases hc : c = 0
        · subst hc
          obtain ⟨p1, p2, p3, p4⟩ := put_get _ _ hz
          have hsz := wordT_size p2
          have q8 := fun W => eput_any z W p4 (by omega)
          rw [p1] at q8
          unfold putE' enc at q8
          simp only [strO_of] at q8
          have d3 : decide ((z.word.size : Int) < 1) = false := decide_eq_false (by omega)
          have d4 : decide (255 < (z.word.size : Int)) = false := decide_eq_false (by omega)
          have d5 : z.gone = false ∨ (z.gone = true ∧ z.weight = 0) := by
            cases hg : z.gone with
            | false => exact .inl rfl
            | true =>
              refine .inr ⟨rfl, ?_⟩
              have := congrArg Ent.weight p3
              unfold bare at this
              rw [if_pos hg] at this
              exact this.symm
          have Q8 := Lib.hid q8
          have Q12 := Lib.hid q12
          clear p1 p2 p3 hz q8 q12
          obtain ⟨zw, zn, zg⟩ := z
          simp only at Q8 Q12 d3 d4 d5 p4 hsz
          rcases d5 with rfl | ⟨rfl, rfl⟩
          all_goals
            (try rw [show ((0 : Nat) : Int) = 0 from rfl] at Q8)
            go_wp2_with (first
              | (go_at_call 12; (with_reducible refine (Q12.out _).mono ?_); rintro e w11 ⟨rfl, hb11⟩; have hb := Below.next hb hb11)
              | (go_at_call 8; (with_reducible refine (Q8.out _).mono ?_); rintro e w12 ⟨rfl, hb12⟩; obtain ⟨b0, b1, b2⟩ := box_kept hb12; have hb := Below.next (below_alloc' hb) hb12))
            exact ⟨⟨k + 1, by omega, by go_num, hb⟩, by simp [intOf]; omega⟩
        · have hzn := get_bad hz hc
          subst hzn
          have hc' : ¬ (c : Int) = 0 := by omega
          have Q12 := Lib.hid q12
          clear hz q12
          unfold noE at Q12
          simp only at Q12
          go_wp2_with (go_at_call 12; (with_reducible refine (Q12.out _).mono ?_); rintro e w11 ⟨rfl, hb11⟩; have hb := Below.next hb hb11)
          exact ⟨⟨k + 1, by omega, by go_num, below_alloc' hb⟩, by simp [intOf]; omega⟩
      · go_wp2
        go_ret
        exact ⟨rfl, Below.next hbw hb⟩
end Go.Proofs.Ytfnmmnbndfdpiaa

/-
  FolderPlays: the walk.
-/
import Derived.Test.YtfjgefnklelnnaaOBox
namespace Go.Proofs.Ytfjgefnklelnnaa
open Go.RowKit Go.Shelf

set_option maxHeartbeats 20000000 in
set_option maxRecDepth 100000 in
theorem folderPlays_walk (l : List Deed) (v : Value) (w : World) (hl : Deeds w v l) (hok : ∀ d ∈ l, d.ok) :
    Calls Try.prog 3 #[v] w fun e w' => e = .returned (.bool true) ∧ Below w.heap.size w w' := by
  obtain ⟨ad, cp, rfl, hc⟩ := hl
  have HC : Hid (∀ W, Below w.heap.size w W → ∀ i, i < l.length → (l.getD i default).ok ∧ ∃ b o, ad = some ⟨b, o, none⟩ ∧ DeedAt W b (o + i * 5) (l.getD i default)) := Lib.hid fun W hW i hi => by
    obtain ⟨b, o, ha, hlt, hd⟩ := hc i hi
    exact ⟨hok _ (by simp [List.getD, hi]), b, o, ha, hd.below hW hlt⟩
  have HW := Lib.hid works_any
  have Q8 : Hid (∀ W, Below w.heap.size w W → Calls Try.prog 8 #[] W fun e w' => ∃ p, e = .returned (.pointer (some ⟨p, 0, none⟩)) ∧ Sole w w' p FS.new) := Lib.hid fun W hW => sole_new w W hW
  have Q9 : Hid (∀ W p, Sole w W p FS.new → Calls Try.prog 9 #[] W fun e w' => ∃ q, e = .returned (.pointer (some ⟨q, 0, none⟩)) ∧ Twin w w' p FS.new q FS.new) := Lib.hid fun W p h => twin_new h
  clear hc hok
  go_enter Try.func3, Try.ntmps3
  go_wp2_with (first
    | (go_at_call 8; (with_reducible refine (Q8.out _ (Below.refl _ _)).mono ?_); rintro e w2 ⟨p, rfl, h2⟩; have H2 := Lib.hid h2; clear h2)
    | (go_at_call 9; (with_reducible refine (Q9.out _ _ H2.out).mono ?_); rintro e w3 ⟨q, rfl, h3⟩; have H3 := Lib.hid h3; clear h3))
  clear Q8 Q9 H2
  go_loopw [3, 5] (fun s3 s5 wr => ∃ (k pp : Nat) (S : FS), k ≤ 80 ∧ k ≤ l.length ∧ s5 = .int .i64 k ∧ s3 = .pointer (some ⟨pp, 0, none⟩) ∧ S.weight ≤ 2 * k ∧ Twin w wr pp S q S) (fun _ s5 _ => 80 - (intOf s5).toNat)
  case atStart => exact ⟨0, p, FS.new, by omega, Nat.zero_le _, rfl, rfl, Nat.le_refl _, H3.out⟩
  case round =>
    obtain ⟨k, pp, S, hk, hkl, rfl, rfl, hwt, hs⟩ := hrel
    have HS := Lib.hid hs
    clear hs H3
    by_cases hlk : k < l.length ∧ k < 80
    · obtain ⟨hlt, h80⟩ := hlk
      obtain ⟨⟨ok0, ok1, ok2, ok3, ok4, ok5⟩, b, o, rfl, c0, c1, c2, c3, c4⟩ := HC.out _ HS.out.below k hlt
      obtain ⟨⟨x, a, b', n, raw⟩, hx⟩ : ∃ d, l.getD k default = d := ⟨_, rfl⟩
      rw [hx] at c0 c1 c2 c3 c4 ok0 ok1 ok2 ok3 ok4 ok5
      simp only at c0 c1 c2 c3 c4 ok0 ok1 ok2 ok3 ok4 ok5
      have e1 : decide ((k : Int) < (l.length : Int)) = true := decide_eq_true (by omega)
      have e1' : decide (k < l.length) = true := decide_eq_true hlt
      have e2 : decide ((k : Int) < 80) = true := decide_eq_true (by omega)
      have e2' : decide (k < 80) = true := decide_eq_true h80
      clear hx HC
      go_upto_region 6 with fail
      obtain ⟨W1, hW1⟩ : ∃ W1, wr.alloc (.cells #[.int .u8 (x : Int), .int .u8 (a : Int), .int .u8 (b' : Int), .int .i8 n, .string raw] 29) = W1 := ⟨_, rfl⟩
      have hbx := below_alloc' (o := .cells #[.int .u8 (x : Int), .int .u8 (a : Int), .int .u8 (b' : Int), .int .i8 n, .string raw] 29) (Below.refl _ wr)
      have hxh := (MapKept.heap_alloc wr (.cells #[.int .u8 (x : Int), .int .u8 (a : Int), .int .u8 (b' : Int), .int .i8 n, .string raw] 29)).1
      have h1x := twinX_of HS.out #[.int .u8 (x : Int), .int .u8 (a : Int), .int .u8 (b' : Int), .int .i8 n, .string raw] 29
      rw [hW1] at hbx hxh h1x ⊢
      obtain ⟨xb, hxb⟩ : ∃ xb, wr.heap.size = xb := ⟨_, rfl⟩
      rw [hxb] at hxh h1x ⊢
      have H1 := Lib.hid h1x
      have HX3 : Hid (∀ W : World, W.heap[xb]? = some (.cells #[.int .u8 (x : Int), .int .u8 (a : Int), .int .u8 (b' : Int), .int .i8 n, .string raw] 29 (0, 0)) → W.cell? ⟨xb, 3, none⟩ = some (.int .i8 n)) := Lib.hid fun W h => by rw [cell_of_row W xb 3 _ 29 (0, 0) h]; rfl
      obtain ⟨ob, hob⟩ : ∃ ob, (Obj.cells #[.int .u8 (x : Int), .int .u8 (a : Int), .int .u8 (b' : Int), .int .i8 n, .string raw] 29 (0, 0)) = ob := ⟨_, rfl⟩
      rw [hob] at H1 HX3
      clear h1x
      have hxlt : xb < W1.heap.size := (Array.getElem?_eq_some_iff.1 hxh).1
      have HX : Hid (∀ W, Below W1.heap.size W1 W → W.cell? ⟨xb, 0, none⟩ = some (.int .u8 (x : Int)) ∧ W.cell? ⟨xb, 1, none⟩ = some (.int .u8 (a : Int)) ∧ W.cell? ⟨xb, 2, none⟩ = some (.int .u8 (b' : Int)) ∧ W.cell? ⟨xb, 3, none⟩ = some (.int .i8 n) ∧ W.cell? ⟨xb, 4, none⟩ = some (.string raw)) := Lib.hid fun W hW => by
        have h := (hW.block xb hxlt).trans hxh
        exact ⟨by rw [cell_of_row W xb 0 _ 29 (0, 0) h]; rfl, by rw [cell_of_row W xb 1 _ 29 (0, 0) h]; rfl, by rw [cell_of_row W xb 2 _ 29 (0, 0) h]; rfl, by rw [cell_of_row W xb 3 _ 29 (0, 0) h]; rfl, by rw [cell_of_row W xb 4 _ 29 (0, 0) h]; rfl⟩
      obtain ⟨d0, d1, d2, d3, d4⟩ := HX.out _ (Below.refl _ W1)
      have gd1 := fun d os => cell_regrown d1 d os
      have gd2 := fun d os => cell_regrown d2 d os
      obtain ⟨na, hna⟩ : ∃ na, nameT a = na := ⟨_, rfl⟩
      obtain ⟨nb, hnb⟩ : ∃ nb, nameT b' = nb := ⟨_, rfl⟩
      have hza := nameT_size a
      have hzb := nameT_size b'
      rw [hna] at hza
      rw [hnb] at hzb
      have q10a := quiet_call (w := W1) fun W _ => name_any a ok1 W
      have q10b := quiet_call (w := W1) fun W _ => name_any b' ok2 W
      rw [hna] at q10a
      rw [hnb] at q10b
      clear c0 c1 c2 c3 c4 HS hW1 hbx hxh hxb hna hnb d0 d3 d4 hob
      refine wp_region_quiet_below (by kernel_rfl) (by kernel_rfl) ?_
      repeat (go_big_quiet_step ((go_at_call 10; first | with_reducible exact q10a _ _ | with_reducible exact q10b _ _)))
      refine wpQuiet_nil ?_
      intro _ hw'
      obtain ⟨⟨dq, osq⟩, hw''⟩ := hw'
      subst hw''
      have HB5 := Lib.hid (below_regrown W1 dq osq)
      generalize Sort.grow (redrawn W1 dq) osq = w5 at HB5 ⊢
      clear gd1 gd2 q10a q10b d1 d2
      obtain ⟨d0, d1, d2, d3, d4⟩ := HX.out _ HB5.out
      have H5 := Lib.hid (H1.out.next HB5.out)
      have hm : (x : Int).tmod 12 = ((x % 12 : Nat) : Int) := by rw [Int.tmod_eq_emod_of_nonneg (by omega)]; omega
      have hm2 : (x : Int) % 12 = ((x % 12 : Nat) : Int) := by omega
      obtain ⟨x12, hx12⟩ : ∃ x12, x % 12 = x12 := ⟨_, rfl⟩
      have hl12 : x12 < 12 := by omega
      rw [hx12] at hm hm2
      clear hx12
      go_upto_if 39 with fail
      go_cut [7] from 39 to 46 (fun s7 wx => ∃ ra : ByteArray, s7 = .string ra ∧ ra.size ≤ 1000 ∧ Below w5.heap.size w5 wx)
      case first =>
        by_cases h9 : 9 < x12
        · have e3 : decide ((9 : Int) < (x12 : Int)) = true := decide_eq_true (by omega)
          have e3' : decide (9 < x12) = true := decide_eq_true h9
          obtain ⟨kp, hkp⟩ : ∃ kp, min raw.size 70 = kp := ⟨_, rfl⟩
          have m1 : min (raw.size : Int) 70 = (kp : Int) := by omega
          have m2 : (kp : Int) ≤ (raw.size : Int) := by omega
          have m3 : kp ≤ raw.size := by omega
          have m4 : kp ≤ 70 := by omega
          have hsz : (raw.extract 0 kp).size ≤ 1000 := by rw [ByteArray.size_extract]; omega
          have HSZ := Lib.hid hsz
          clear hsz hkp
          go_wp2_with fail
          go_meet
          exact ⟨_, rfl, HSZ.out, Below.refl _ _⟩
        · have e3 : decide ((9 : Int) < (x12 : Int)) = false := decide_eq_false (by omega)
          have e3' : decide (9 < x12) = false := decide_eq_false h9
          go_wp2_with fail
          go_meet
          exact ⟨_, rfl, by omega, Below.refl _ _⟩
      case rest =>
      obtain ⟨ra, rfl, hra, hb6⟩ := hcut
      have HB6 := Lib.hid (Below.next HB5.out hb6)
      obtain ⟨d0, d1, d2, d3, d4⟩ := HX.out _ HB6.out
      have H6 := Lib.hid (H5.out.next hb6)
      clear hb6 H5 HB5 hza
      go_upto_block 2 with fail
      go_cut [3] from 50 to 142 (fun s3 wx => ∃ (pp' : Nat) (S' : FS), s3 = .pointer (some ⟨pp', 0, none⟩) ∧ S'.weight ≤ 2 * (k + 1) ∧ Twin w wx pp' S' q S')
      case first =>
        have HG := Lib.hid H6.out.twin.good
        rcases (show (x12 = 0 ∨ x12 = 1 ∨ x12 = 2 ∨ x12 = 10) ∨ (x12 = 3 ∨ x12 = 4) ∨ x12 = 11 ∨ (x12 = 5 ∨ x12 = 6) ∨ x12 = 7 ∨ x12 = 8 ∨ x12 = 9 by omega) with h | h | h | h | h | h | h
        · have hcw := weight_create S ra
          have Q11 := Lib.hid (twin_create H6.out.twin ra (by omega) (by omega))
          have Q12 : Hid (∀ W, Twin w W pp (S.create ra).1 q S → Calls Try.prog 12 #[.pointer (some ⟨q, 0, none⟩), .string ra] W fun e w' => e = .returned (.tuple #[.int .i64 ((S.create ra).2.1 : Nat), .int .i64 ((S.create ra).2.2 : Nat)]) ∧ Twin w w' pp (S.create ra).1 q (S.create ra).1) := Lib.hid fun W h => twinR_create h ra (by omega) HG.out (by omega)
          obtain ⟨⟨S', num, er⟩, hcr⟩ : ∃ r, S.create ra = r := ⟨_, rfl⟩
          rw [hcr] at hcw Q11 Q12
          simp only at hcw Q11 Q12
          clear hcr hm hm2 hl12
          rcases h with rfl | rfl | rfl | rfl
          all_goals
            go_wp2_with (first
              | (go_at_call 11; (with_reducible refine Q11.out.mono ?_); rintro e w7 ⟨rfl, h7⟩; have H7 := Lib.hid h7; clear h7)
              | (go_at_call 12; (with_reducible refine (Q12.out _ H7.out).mono ?_); rintro e w8 ⟨rfl, h8⟩; have H8 := Lib.hid h8; clear h8))
            go_meet
            exact ⟨pp, S', rfl, by omega, H8.out⟩
        · have hcw := weight_rename S ra nb
          have Q13 := Lib.hid (twin_rename H6.out.twin ra nb (by omega) (by omega) (by omega))
          have Q14 : Hid (∀ W, Twin w W pp (S.rename ra nb).1 q S → Calls Try.prog 14 #[.pointer (some ⟨q, 0, none⟩), .string ra, .string nb] W fun e w' => e = .returned (.int .i64 ((S.rename ra nb).2 : Nat)) ∧ Twin w w' pp (S.rename ra nb).1 q (S.rename ra nb).1) := Lib.hid fun W h => twinR_rename h ra nb (by omega) HG.out (by omega)
          obtain ⟨⟨S', er⟩, hcr⟩ : ∃ r, S.rename ra nb = r := ⟨_, rfl⟩
          rw [hcr] at hcw Q13 Q14
          simp only at hcw Q13 Q14
          clear hcr hm hm2 hl12
          rcases h with rfl | rfl
          all_goals
            go_wp2_with (first
              | (go_at_call 13; (with_reducible refine Q13.out.mono ?_); rintro e w7 ⟨rfl, h7⟩; have H7 := Lib.hid h7; clear h7)
              | (go_at_call 14; (with_reducible refine (Q14.out _ H7.out).mono ?_); rintro e w8 ⟨rfl, h8⟩; have H8 := Lib.hid h8; clear h8))
            go_meet
            exact ⟨pp, S', rfl, by omega, H8.out⟩
        · have hcw := weight_rename S nb ra
          have Q13 := Lib.hid (twin_rename H6.out.twin nb ra (by omega) (by omega) (by omega))
          have Q14 : Hid (∀ W, Twin w W pp (S.rename nb ra).1 q S → Calls Try.prog 14 #[.pointer (some ⟨q, 0, none⟩), .string nb, .string ra] W fun e w' => e = .returned (.int .i64 ((S.rename nb ra).2 : Nat)) ∧ Twin w w' pp (S.rename nb ra).1 q (S.rename nb ra).1) := Lib.hid fun W h => twinR_rename h nb ra (by omega) HG.out (by omega)
          obtain ⟨⟨S', er⟩, hcr⟩ : ∃ r, S.rename nb ra = r := ⟨_, rfl⟩
          rw [hcr] at hcw Q13 Q14
          simp only at hcw Q13 Q14
          clear hcr hm hm2 hl12
          subst h
          go_wp2_with (first
            | (go_at_call 13; (with_reducible refine Q13.out.mono ?_); rintro e w7 ⟨rfl, h7⟩; have H7 := Lib.hid h7; clear h7)
            | (go_at_call 14; (with_reducible refine (Q14.out _ H7.out).mono ?_); rintro e w8 ⟨rfl, h8⟩; have H8 := Lib.hid h8; clear h8))
          go_meet
          exact ⟨pp, S', rfl, by omega, H8.out⟩
        · have hcw := weight_remove S ra
          have Q15 := Lib.hid (twin_remove H6.out.twin ra (by omega) (by omega))
          have Q16 : Hid (∀ W, Twin w W pp (S.remove ra).1 q S → Calls Try.prog 16 #[.pointer (some ⟨q, 0, none⟩), .string ra] W fun e w' => e = .returned (.int .i64 ((S.remove ra).2 : Nat)) ∧ Twin w w' pp (S.remove ra).1 q (S.remove ra).1) := Lib.hid fun W h => twinR_remove h ra HG.out (by omega)
          obtain ⟨⟨S', er⟩, hcr⟩ : ∃ r, S.remove ra = r := ⟨_, rfl⟩
          rw [hcr] at hcw Q15 Q16
          simp only at hcw Q15 Q16
          clear hcr hm hm2 hl12
          rcases h with rfl | rfl
          all_goals
            go_wp2_with (first
              | (go_at_call 15; (with_reducible refine Q15.out.mono ?_); rintro e w7 ⟨rfl, h7⟩; have H7 := Lib.hid h7; clear h7)
              | (go_at_call 16; (with_reducible refine (Q16.out _ H7.out).mono ?_); rintro e w8 ⟨rfl, h8⟩; have H8 := Lib.hid h8; clear h8))
            go_meet
            exact ⟨pp, S', rfl, by omega, H8.out⟩
        · have hcw := weight_sync S
          have hAl : S.A.length ≤ 90000 := by unfold FS.weight at hwt; omega
          have Q17 := Lib.hid (twin_sync H6.out.twin (by omega))
          have Q19 : Hid (∀ W, Twin w W pp S.sync q S → Calls Try.prog 19 #[.pointer (some ⟨q, 0, none⟩)] W fun e w' => e = .returned (.int .i64 (S.A.length : Nat)) ∧ Twin w w' pp S.sync q S) := Lib.hid fun W h => twinR_pending h
          have Q18 : Hid (∀ W, Twin w W pp S.sync q S → Calls Try.prog 18 #[.pointer (some ⟨q, 0, none⟩), .int .i64 (S.A.length : Nat)] W fun e w' => e = .returned (.tuple #[]) ∧ Twin w w' pp S.sync q S.sync) := Lib.hid fun W h => by
            have := twinR_survive h (S.A.length : Nat) ⟨by omega, by omega⟩ (by omega)
            rw [sync_survive] at this
            exact this
          obtain ⟨pn, hpn⟩ : ∃ pn, S.A.length = pn := ⟨_, rfl⟩
          obtain ⟨S', hS'⟩ : ∃ S', S.sync = S' := ⟨_, rfl⟩
          rw [hpn] at Q18 Q19
          rw [hS'] at Q17 Q18 Q19 hcw
          clear hpn hS' hAl hm hm2 hl12
          subst h
          go_wp2_with (first
            | (go_at_call 17; (with_reducible refine Q17.out.mono ?_); rintro e w7 ⟨rfl, h7⟩; have H7 := Lib.hid h7; clear h7)
            | (go_at_call 19; (with_reducible refine (Q19.out _ H7.out).mono ?_); rintro e w7' ⟨rfl, h7⟩; have H7' := Lib.hid h7; clear h7)
            | (go_at_call 18; (with_reducible refine (Q18.out _ H7'.out).mono ?_); rintro e w8 ⟨rfl, h8⟩; have H8 := Lib.hid h8; clear h8))
          go_meet
          exact ⟨pp, S', rfl, by omega, H8.out⟩
        · have hcw := weight_survive S n
          have Q20 := Lib.hid (twinX_survive H6.out n ⟨by omega, by omega⟩ (by omega))
          have Q18 : Hid (∀ W, Twin w W pp (S.survive n) q S → Calls Try.prog 18 #[.pointer (some ⟨q, 0, none⟩), .int .i64 n] W fun e w' => e = .returned (.tuple #[]) ∧ Twin w w' pp (S.survive n) q (S.survive n)) := Lib.hid fun W h => twinR_survive h n ⟨by omega, by omega⟩ (by omega)
          obtain ⟨S', hS'⟩ : ∃ S', S.survive n = S' := ⟨_, rfl⟩
          rw [hS'] at Q18 Q20 hcw
          clear hS' hm hm2 hl12
          subst h
          go_wp2_with (first
            | (go_at_call 20; (with_reducible refine Q20.out.mono ?_); rintro e w7 ⟨rfl, h7⟩; have H7 := Lib.hid h7.twin; have k3 := HX3.out _ h7.box; clear h7)
            | (go_at_call 18; (with_reducible refine (Q18.out _ H7.out).mono ?_); rintro e w8 ⟨rfl, h8⟩; have H8 := Lib.hid h8; clear h8))
          go_meet
          exact ⟨pp, S', rfl, by omega, H8.out⟩
        · have hw1 := weight_remove S ra
          have hw2 := weight_create (S.remove ra).1 ⟨#[103, 111, 110, 101]⟩
          have Q21 := Lib.hid (tripX_copy H6.out (by omega))
          have Q15 : Hid (∀ W c, TripX w W pp S c S q S xb ob → Calls Try.prog 15 #[.pointer (some ⟨pp, 0, none⟩), .string ra] W fun e w' => e = .returned (.int .i64 ((S.remove ra).2 : Nat)) ∧ TripX w w' pp (S.remove ra).1 c S q S xb ob) := Lib.hid fun W c h => tripX_remove h ra (by omega) (by omega)
          have Q11 : Hid (∀ W c, TripX w W pp (S.remove ra).1 c S q S xb ob → Calls Try.prog 11 #[.pointer (some ⟨pp, 0, none⟩), .string ⟨#[103, 111, 110, 101]⟩] W fun e w' => e = .returned (.tuple #[.int .i64 (((S.remove ra).1.create ⟨#[103, 111, 110, 101]⟩).2.1 : Nat), .int .i64 (((S.remove ra).1.create ⟨#[103, 111, 110, 101]⟩).2.2 : Nat)]) ∧ TripX w w' pp ((S.remove ra).1.create ⟨#[103, 111, 110, 101]⟩).1 c S q S xb ob) := Lib.hid fun W c h => tripX_create h _ (by decide) (by omega)
          have Q20 : Hid (∀ W c, TripX w W pp ((S.remove ra).1.create ⟨#[103, 111, 110, 101]⟩).1 c S q S xb ob → Calls Try.prog 20 #[.pointer (some ⟨pp, 0, none⟩), .int .i64 n] W fun e w' => e = .returned (.tuple #[]) ∧ TripX w w' pp (((S.remove ra).1.create ⟨#[103, 111, 110, 101]⟩).1.survive n) c S q S xb ob) := Lib.hid fun W c h => tripX_survive h n ⟨by omega, by omega⟩ (by omega)
          generalize ((S.remove ra).1.create ⟨#[103, 111, 110, 101]⟩).1.survive n = S3 at Q20
          clear hw1 hw2
          generalize (S.remove ra).1.create ⟨#[103, 111, 110, 101]⟩ = r2 at Q11 Q20
          obtain ⟨S2, num, er⟩ := r2
          simp only at Q11 Q20
          generalize S.remove ra = r1 at Q15 Q11
          obtain ⟨S1, er1⟩ := r1
          simp only at Q15 Q11
          clear hm hm2 hl12
          subst h
          go_wp2_with (first
            | (go_at_call 21; (with_reducible refine Q21.out.mono ?_); rintro e w7 ⟨c, rfl, h7⟩; have H7 := Lib.hid h7; clear h7)
            | (go_at_call 15; (with_reducible refine (Q15.out _ _ H7.out).mono ?_); rintro e w8 ⟨rfl, h8⟩; have H8 := Lib.hid h8; clear h8)
            | (go_at_call 11; (with_reducible refine (Q11.out _ _ H8.out).mono ?_); rintro e w9 ⟨rfl, h9⟩; have H9 := Lib.hid h9; have k3 := HX3.out _ h9.box; clear h9)
            | (go_at_call 20; (with_reducible refine (Q20.out _ _ H9.out).mono ?_); rintro e w10 ⟨rfl, h10⟩; have H10 := Lib.hid h10; clear h10))
          go_meet
          exact ⟨c, S, rfl, by omega, H10.out.trip.twin⟩
      case rest =>
      obtain ⟨pp', S', rfl, hw', hs'⟩ := hcut
      have H9 := Lib.hid hs'
      clear hs' H6 HB6 d0 d1 d2 d3 d4 HX HX3
      have QA := Lib.hid (H9.out.alike (by omega))
      go_wp2_with (go_at_call 22; (with_reducible refine QA.out.mono ?_); rintro e w10 ⟨rfl, h10⟩; have H10 := Lib.hid h10; clear h10)
      exact ⟨⟨k + 1, pp', S', by omega, by omega, by go_num, rfl, hw', H10.out⟩, by simp [intOf]; omega⟩
    · have hb : k < l.length ∧ ¬ k < 80 ∨ ¬ k < l.length := by omega
      rcases hb with ⟨h1, h2⟩ | h1
      · have e1 : decide ((k : Int) < (l.length : Int)) = true := decide_eq_true (by omega)
        have e1' : decide (k < l.length) = true := decide_eq_true h1
        have e2 : decide ((k : Int) < 80) = false := decide_eq_false (by omega)
        have e2' : decide (k < 80) = false := decide_eq_false h2
        go_wp2_with (go_at_call 23; (with_reducible refine (HW.out _).mono ?_); rintro e w11 ⟨rfl, h11⟩; have H11 := Lib.hid (HS.out.next h11); clear h11)
        go_ret
        exact ⟨rfl, H11.out.below⟩
      · have e1 : decide ((k : Int) < (l.length : Int)) = false := decide_eq_false (by omega)
        have e1' : decide (k < l.length) = false := decide_eq_false h1
        go_wp2_with (go_at_call 23; (with_reducible refine (HW.out _).mono ?_); rintro e w11 ⟨rfl, h11⟩; have H11 := Lib.hid (HS.out.next h11); clear h11)
        go_ret
        exact ⟨rfl, H11.out.below⟩
end Go.Proofs.Ytfjgefnklelnnaa

/-
  FileStays: the walk.
-/
import Derived.Test.YtloijbhilfbliaaFCopy2
import Derived.Deep.RegionHeld3
import Derived.Deep.DeepCutAuto
import Derived.Deep.CutRange
import Derived.Deep.CutBlock
import Derived.Lib.QuietBelow
import Derived.BigQuiet
namespace Go.Proofs.Ytloijbhilfbliaa
open Go.RowKit Go.Shelf

theorem below_drewS {w0 w : World} (h : Below w0.heap.size w0 w) : Below w0.heap.size w0 w.drew := Below.drew h

/-- A new file, and the row of what was read at first. -/
theorem solo_first (X : ByteArray) (w0 w : World) (hb : Below w0.heap.size w0 w) (hs : X.size ≤ 100000) :
    Calls Try.prog 7 #[.string X] w fun e w' => ∃ p, e = .returned (.pointer (some ⟨p, 0, none⟩)) ∧ Calls Try.prog 14 #[.pointer (some ⟨p, 0, none⟩)] w' (fun e w1 => e = .returned (.string X) ∧ w' = w1) ∧ Solo w0 (w'.alloc (.cells #[.string X] 9)) p X.data.toList [] (.slice (some ⟨w'.heap.size, 0, none⟩) 1 1) (timesT X.data.toList []) := by
  refine (new_any X w hs).mono ?_
  rintro e w' ⟨p, M, rfl, h1, h2, h3⟩
  have hz := hb.size
  have h14 := bytes_any h1
  rw [reads_nil, show (⟨X.data.toList.toArray⟩ : ByteArray) = X from strO_of X] at h14
  have h4 := solo_new h1 (fun g hg => Nat.le_trans hz (h2 g hg)) (Below.next hb h3) X
  rw [timesT_nil, strO_of]
  exact ⟨p, rfl, h14, h4⟩

set_option maxHeartbeats 20000000 in
set_option maxRecDepth 100000 in
theorem fileStays_walk (s : ByteArray) (l : List Deed) (v : Value) (c0 c1 : Int) (w : World) (hs : s.size ≤ 9223372036854775807) (hl : Deeds w v l) (hok : ∀ d ∈ l, d.ok) (hc0 : -32768 ≤ c0 ∧ c0 ≤ 32767) (hc1 : -32768 ≤ c1 ∧ c1 ≤ 32767) :
    Calls Try.prog 4 #[.string s, v, .agg #[.int .i16 c0, .int .i16 c1]] w fun e w' => e = .returned (.bool true) ∧ Below w.heap.size w w' := by
  obtain ⟨ad, c, rfl, hc⟩ := hl
  have HC : Hid (∀ W, Below w.heap.size w W → ∀ i, i < l.length → (l.getD i default).ok ∧ ∃ b o, ad = some ⟨b, o, none⟩ ∧ DeedAt W b (o + i * 4) (l.getD i default)) := Lib.hid fun W hW i hi => by
    obtain ⟨b, o, ha, hlt, hd⟩ := hc i hi
    exact ⟨hok _ (by simp [List.getD, hi]), b, o, ha, hd.below hW hlt⟩
  have HW13 := Lib.hid works_any
  have hX : ∃ X : ByteArray, ∃ kk : Nat, X.size = kk ∧ kk ≤ 50 ∧ (s.size ≤ 50 ∧ X = s ∨ 50 < s.size ∧ s.extract 0 50 = X) := by
    rcases Nat.lt_or_ge 50 s.size with hlt | hge
    · exact ⟨s.extract 0 50, 50, by rw [ByteArray.size_extract]; omega, by omega, .inr ⟨hlt, rfl⟩⟩
    · exact ⟨s, s.size, rfl, hge, .inl ⟨hge, rfl⟩⟩
  obtain ⟨X, kk, hXz, hk50, hX⟩ := hX
  have HXL : X.data.toList.length = kk := by rw [ba_length]; exact hXz
  have HP : Hid (∀ W, Below (w.alloc (.cells #[.int .i16 c0, .int .i16 c1] 39)).heap.size (w.alloc (.cells #[.int .i16 c0, .int .i16 c1] 39)) W → W.cell? ⟨w.heap.size, 0, none⟩ = some (.int .i16 c0) ∧ W.cell? ⟨w.heap.size, 1, none⟩ = some (.int .i16 c1)) := Lib.hid fun W hW => by
    have ht := (hW.block w.heap.size (by simp)).trans (heap_alloc_new w (.cells #[.int .i16 c0, .int .i16 c1] 39))
    exact ⟨by rw [cell_of_row _ _ _ _ _ _ ht]; rfl, by rw [cell_of_row _ _ _ _ _ _ ht]; rfl⟩
  obtain ⟨wb, hwb⟩ : ∃ wb, w.alloc (.cells #[.int .i16 c0, .int .i16 c1] 39) = wb := ⟨_, rfl⟩
  have HBW : Hid (∀ W, Below wb.heap.size wb W → Below w.heap.size w W) := Lib.hid fun W hW => Below.next (by rw [← hwb]; exact below_alloc' (Below.refl _ w)) hW
  rw [hwb] at HP
  have Q7 : Hid (∀ W, Below wb.heap.size wb W → Calls Try.prog 7 #[.string X] W fun e w' => ∃ p, e = .returned (.pointer (some ⟨p, 0, none⟩)) ∧ Calls Try.prog 14 #[.pointer (some ⟨p, 0, none⟩)] w' (fun e w1 => e = .returned (.string X) ∧ w' = w1) ∧ Solo wb (w'.alloc (.cells #[.string X] 9)) p X.data.toList [] (.slice (some ⟨w'.heap.size, 0, none⟩) 1 1) (timesT X.data.toList [])) := Lib.hid fun W hW => solo_first X wb W hW (by omega)
  clear hc hok
  go_enter Try.func4, Try.ntmps4
  go_upto_region 3 with (go_at_call 13; (with_reducible refine (HW13.out _).mono ?_); rintro e w1 ⟨rfl, h1⟩; have HB1 := Lib.hid h1; clear h1)
  go_cut [7] from 23 to 28 (fun s7 wx => ∃ p, s7 = .pointer (some ⟨p, 0, none⟩) ∧ Calls Try.prog 14 #[.pointer (some ⟨p, 0, none⟩)] wx (fun e w1 => e = .returned (.string X) ∧ wx = w1) ∧ Solo wb (wx.alloc (.cells #[.string X] 9)) p X.data.toList [] (.slice (some ⟨wx.heap.size, 0, none⟩) 1 1) (timesT X.data.toList []))
  case first =>
    rcases hX with ⟨hle, rfl⟩ | ⟨hgt, hX⟩
    · have hXX : X.extract 0 kk = X := by rw [← hXz, ByteArray.extract_zero_size]
      go_wp2_with (go_at_call 7; (with_reducible refine (Q7.out _ HB1.out).mono ?_); rintro e w2 ⟨p, rfl, h14, h2⟩; have H2 := Lib.hid (And.intro h14 h2); clear h14 h2)
      go_meet
      exact ⟨_, rfl, H2.out⟩
    · go_wp2_with (go_at_call 7; (with_reducible refine (Q7.out _ HB1.out).mono ?_); rintro e w2 ⟨p, rfl, h14, h2⟩; have H2 := Lib.hid (And.intro h14 h2); clear h14 h2)
      go_meet
      exact ⟨_, rfl, H2.out⟩
  case rest =>
  obtain ⟨p, rfl, h14, h2⟩ := hcut
  have H14 := Lib.hid h14
  have H2 := Lib.hid h2
  clear hX Q7 h14 h2 HB1
  go_upto_block 0 with (go_at_call 14; (with_reducible refine H14.out.mono ?_); rintro e w2 ⟨rfl, rfl⟩)
  go_cut [8, 9, 10] from 32 to 128 (fun s8 s9 s10 wx => ∃ (k : Nat) (D : List UInt8) (A : List Do) (cu : Bool), k ≤ 30 ∧ s10 = .int .i64 k ∧ s9 = .bool cu ∧ A.length ≤ k ∧ bulk D A ≤ 50 + 20 * k ∧ (cu = false → AllApp A) ∧ Solo wb wx p D A s8 (timesT D A))
  case first =>
    as_aux_lemma =>
      go_wp2_with fail
      go_loopw [8, 9, 10] (fun s8 s9 s10 wr => ∃ (k : Nat) (D : List UInt8) (A : List Do) (cu : Bool), k ≤ 30 ∧ k ≤ l.length ∧ s10 = .int .i64 k ∧ s9 = .bool cu ∧ A.length ≤ k ∧ bulk D A ≤ 50 + 20 * k ∧ (cu = false → AllApp A) ∧ Solo wb wr p D A s8 (timesT D A)) (fun _ _ s10 _ => 30 - (intOf s10).toNat)
      case atStart => exact ⟨0, X.data.toList, [], false, by omega, Nat.zero_le _, rfl, rfl, Nat.le_refl _, by rw [bulk_nil, HXL]; omega, (fun _ a ha => by cases ha), H2.out⟩
      case round =>
        obtain ⟨k, D, A, cu, hk, hkl, rfl, rfl, hA, hB, hcu, hm⟩ := hrel
        have HCU := Lib.hid hcu
        have HMM := Lib.hid hm
        have htb : ∃ tb : Bool, (tb = true ∧ k < l.length ∧ k < 30) ∨ (tb = false ∧ k < l.length ∧ ¬ k < 30) ∨ (tb = false ∧ ¬ k < l.length) := by
          by_cases h1 : k < l.length
          · by_cases h2 : k < 30
            · exact ⟨true, .inl ⟨rfl, h1, h2⟩⟩
            · exact ⟨false, .inr (.inl ⟨rfl, h1, h2⟩)⟩
          · exact ⟨false, .inr (.inr ⟨rfl, h1⟩)⟩
        obtain ⟨tb, htb⟩ := htb
        clear hcu hm
        go_upto_region 7 with fail
        go_cut [39] from 32 to 38 (fun s39 wx => s39 = .bool tb ∧ wr = wx)
        case first =>
          rcases htb with ⟨rfl, h1, h2⟩ | ⟨rfl, h1, h2⟩ | ⟨rfl, h1⟩
          all_goals
            go_wp2
            go_meet
            first
              | exact ⟨rfl, rfl⟩
              | exact ⟨congrArg Value.bool (decide_eq_true (by omega)), rfl⟩
              | exact ⟨congrArg Value.bool (decide_eq_false (by omega)), rfl⟩
        case rest =>
        obtain ⟨rfl, hwc⟩ := hcut
        subst hwc
        have htb2 : (tb = true ∧ k < l.length ∧ k < 30) ∨ tb = false := by
          rcases htb with h | h | h
          · exact .inl h
          · exact .inr h.1
          · exact .inr h.1
        clear htb
        rcases htb2 with ⟨rfl, hlt, h30⟩ | rfl
        · have hm := HMM.out
          clear HMM
          obtain ⟨⟨ok0, ok1, ok2, ok3, ok4, ok5⟩, b, o, rfl, k0, k1, k2, k3⟩ := HC.out _ (HBW.out _ hm.below) k hlt
          obtain ⟨⟨x, t, n, m⟩, hx⟩ : ∃ d, l.getD k default = d := ⟨_, rfl⟩
          rw [hx] at k0 k1 k2 k3 ok0 ok1 ok2 ok3 ok4 ok5
          simp only at k0 k1 k2 k3 ok0 ok1 ok2 ok3 ok4 ok5
          obtain ⟨g, cc, N, rfl, hN⟩ := solo_some hm
          have HN := Lib.hid hN
          clear hN
          have HM := Lib.hid hm
          have hrl := reads_length D A
          clear hm hx
          obtain ⟨R, hR⟩ : ∃ R, reads D A = R := ⟨_, rfl⟩
          obtain ⟨S, hS⟩ : ∃ S, strO R = S := ⟨_, rfl⟩
          obtain ⟨SD, hSD⟩ : ∃ SD, strO D = SD := ⟨_, rfl⟩
          have hRS : strO (reads D A) = S := by rw [hR, hS]
          rw [hR] at hrl
          obtain ⟨w1, hw1⟩ : ∃ w1, wr.alloc (.cells #[.int .u8 (x : Int), .string t, .int .i16 n, .int .i16 m] 31) = w1 := ⟨_, rfl⟩
          obtain ⟨g0, hg0⟩ : ∃ g0, wr.heap.size = g0 := ⟨_, rfl⟩
          have hb1 : Below wr.heap.size wr w1 := by rw [← hw1]; exact below_alloc' (Below.refl _ wr)
          have hz1 : w1.heap.size = g0 + 1 := by rw [← hw1, ← hg0]; simp
          have hrow : w1.heap[g0]? = some (.cells #[.int .u8 (x : Int), .string t, .int .i16 n, .int .i16 m] 31 (0, 0)) := by rw [← hw1, ← hg0]; exact heap_alloc_new wr _
          have HZ1 := Lib.hid hz1
          clear hz1
          have HJ : Hid (∀ W : World, W.heap[g0]? = w1.heap[g0]? → W.cell? ⟨g0, 0, none⟩ = some (.int .u8 (x : Int)) ∧ W.cell? ⟨g0, 1, none⟩ = some (.string t) ∧ W.cell? ⟨g0, 2, none⟩ = some (.int .i16 n)) := Lib.hid fun W hW => by
            have ht := hW.trans hrow
            refine ⟨?_, ?_, ?_⟩ <;> (rw [cell_of_row _ _ _ _ _ _ ht]; rfl)
          obtain ⟨j0, j1, j2⟩ := HJ.out w1 rfl
          have H1 := Lib.hid (HM.out.next hb1)
          have hy : ((x : Int) % 10 == 4) = true ∨ ((x : Int) % 10 == 4) = false ∧ ((x : Int) % 10 == 5) = true ∨ ((x : Int) % 10 == 4) = false ∧ ((x : Int) % 10 == 5) = false ∧ ((x : Int) % 10 == 6) = true ∨
              ((x : Int) % 10 == 4) = false ∧ ((x : Int) % 10 == 5) = false ∧ ((x : Int) % 10 == 6) = false := by
            cases h4 : ((x : Int) % 10 == 4) <;> cases h5 : ((x : Int) % 10 == 5) <;> cases h6 : ((x : Int) % 10 == 6) <;> simp
          go_upto_block 2 with fail
          clear k0 k1 k2 k3 hrow HC
          go_cut [8, 9, 12] from 49 to 103 (fun s8 s9 s12 wx => ∃ (z12 : Value) (D2 : List UInt8) (A2 : List Do) (cu2 : Bool), s12 = z12 ∧ s9 = .bool cu2 ∧ A2.length ≤ k + 1 ∧ bulk D2 A2 ≤ 50 + 20 * (k + 1) ∧ (cu2 = false → AllApp A2) ∧ Solo wb wx p D2 A2 s8 (timesT D2 A2))
          case first =>
            rcases hy with hy | ⟨hy1, hy⟩ | ⟨hy1, hy2, hy⟩ | ⟨hy1, hy2, hy3⟩
            · as_aux_lemma =>
                have hnn := sizeT_in n R.length ok2 ok3 (by omega)
                have Q17s := fun W => size_any n R.length W ok2 ok3 (by omega)
                obtain ⟨nn, hnne⟩ : ∃ nn, sizeT n R.length = nn := ⟨_, rfl⟩
                rw [hnne] at hnn Q17s
                have Q17 := Lib.hid Q17s
                clear Q17s hnne
                have hlcut := cutT_length R A nn
                have hbcut := cutT_bulk D R A nn
                have hg0l : g0 < w1.heap.size := by have := HZ1.out; omega
                have Q15 : Hid (∀ W, Below w1.heap.size w1 W → Calls Try.prog 15 #[.pointer (some ⟨p, 0, none⟩)] W fun e w' => e = .returned (.int .i64 (R.length : Nat)) ∧ W = w') := Lib.hid fun W hW => by have hq := ((H1.out.next hW).three hRS hSD).2.2.2; rw [hR] at hq; exact hq
                have Q16 : Hid (∀ W, Below w1.heap.size w1 W → Calls Try.prog 16 #[.pointer (some ⟨p, 0, none⟩), .int .i64 nn] W fun e w' => e = .returned (.int .i64 (cutE R nn)) ∧ Solo wb w' p D (cutT R A nn) (.slice (some ⟨g, 0, none⟩) N cc) (timesT D A) ∧ w'.cell? ⟨g0, 2, none⟩ = some (.int .i16 n)) := Lib.hid fun W hW => by
                  have hz := hW.size
                  have hq := HM.out.went_at (f := 16) (args := #[.pointer (some ⟨p, 0, none⟩), .int .i64 nn]) (Below.next hb1 hW) fun _ _ hf => cut_any hf (by omega) (by omega) (by omega)
                  rw [hR] at hq
                  exact hq.mono fun e w' h' => ⟨h'.1, h'.2.1, (HJ.out w' ((h'.2.2 g0 (by omega) (by omega)).trans (hW.block g0 hg0l))).2.2⟩
                have j2d : w1.drew.cell? ⟨g0, 2, none⟩ = some (.int .i16 n) := j2
                have hcase : (0 ≤ nn ∧ nn < R.length) ∨ nn = R.length ∨ (nn < 0 ∨ (R.length : Int) < nn) := by omega
                rcases hcase with hcase | hcase | hcase
                · obtain ⟨hA2s, hR2c⟩ := reads_cutS D R A nn hR hcase.1 hcase.2
                  have hce : cutE R nn = 0 := by unfold cutE; rw [if_neg (by omega)]
                  obtain ⟨A2, hA2⟩ : ∃ A2, cutT R A nn = A2 := ⟨_, rfl⟩
                  rw [hce, hA2] at Q16
                  rw [hA2] at hA2s hR2c hlcut hbcut
                  obtain ⟨R2, hR2⟩ : ∃ R2, reads D A2 = R2 := ⟨_, rfl⟩
                  obtain ⟨S2, hS2⟩ : ∃ S2, strO R2 = S2 := ⟨_, rfl⟩
                  have hS2' : strO (reads D A2) = S2 := by rw [hR2, hS2]
                  have hrl2 : R2.length < R.length := by rw [← hR2, hR2c, List.length_take]; omega
                  obtain ⟨r2, hr2⟩ : ∃ r2, R2.length = r2 := ⟨_, rfl⟩
                  have Q15b : Hid (∀ W, Solo wb W p D A2 (.slice (some ⟨g, 0, none⟩) N cc) (timesT D A) → Calls Try.prog 15 #[.pointer (some ⟨p, 0, none⟩)] W fun e w' => e = .returned (.int .i64 (r2 : Nat)) ∧ W = w') := Lib.hid fun W hW => by have hq := (hW.three hS2' hSD).2.2.2; rw [hR2, hr2] at hq; exact hq
                  rw [hr2] at hrl2
                  have dl : decide ((r2 : Int) < (R.length : Int)) = true := decide_eq_true (by omega)
                  have HR2 := Lib.hid hR2
                  clear hcase hce hA2 hR2c hr2 hR2 hS2
                  go_upto_region 17 with (go_at_call 15; (with_reducible refine (Q15.out _ (Below.refl _ w1)).mono ?_); rintro e w3 ⟨rfl, rfl⟩)
                  go_region_held3 (fun W => W.cell? ⟨g0, 2, none⟩ = some (.int .i16 n)) (assumption) (first
                    | ((go_at_call 15; (first | ((with_reducible refine (Q15.out _ (below_drewS (Below.refl _ w1))).mono ?_); rintro e w3 ⟨rfl, rfl⟩) | ((with_reducible refine (Q15b.out _ H7.out).mono ?_); rintro e w8 ⟨rfl, rfl⟩))))
                    | ((go_at_call 17; (with_reducible refine (Q17.out _).mono ?_); rintro e w4 ⟨rfl, rfl⟩))
                    | ((go_at_call 16; (with_reducible refine (Q16.out _ (below_drewS (Below.refl _ w1))).mono ?_); rintro e w7 ⟨rfl, h7, j7⟩; have H7 := Lib.hid h7; clear h7)))
                  have q14b := (H7.out.three hS2' hSD).1
                  obtain ⟨N2, hNN⟩ : ∃ N2, N + 1 = N2 := ⟨_, rfl⟩
                  clear j0 j1 j2 j7 j2d Q16 Q17 Q15 Q15b H1 HJ
                  go_wp2_with (first
                    | (go_at_call 14; (with_reducible refine q14b.mono ?_); rintro e w6 ⟨rfl, rfl⟩; clear q14b)
                    | (at_builtin; refine wpList_append_str1 rfl _ _ rfl rfl wb.heap.size (.slice (some ⟨g, 0, none⟩) N cc) N (strs (timesT D A)) w7.heap.size S2 rfl rfl (by rw [cell_of_row _ _ _ _ _ _ (heap_alloc_new w7 _)]; rfl) (owns_next (H7.out.owns HN.out) (below_alloc' (Below.refl _ w7))) (by have := H7.out.below.size; have := (below_alloc' (o := .cells #[.string S2] 9) (Below.refl w7.heap.size w7)).size; omega) (by have := HN.out; omega) ?_; intro v' w13 o13 g13 l13; have h13 := H7.out.more hA2s hS2' (below_alloc' (Below.refl _ w7)) HN.out o13 g13 l13; obtain ⟨g', c', rfl⟩ := owns_some o13 hNN (by have := HN.out; omega); have H13 := Lib.hid h13; clear o13 g13 l13 h13))
                  go_meet
                  exact ⟨_, D, A2, true, rfl, rfl, by omega, by omega, (fun h => by cases h), H13.out⟩
                · have hA2 := cutT_not R A nn (by omega)
                  have hce : cutE R nn = 0 := by unfold cutE; rw [if_neg (by omega)]
                  rw [hce, hA2] at Q16
                  have Q15b : Hid (∀ W, Solo wb W p D A (.slice (some ⟨g, 0, none⟩) N cc) (timesT D A) → Calls Try.prog 15 #[.pointer (some ⟨p, 0, none⟩)] W fun e w' => e = .returned (.int .i64 (R.length : Nat)) ∧ W = w') := Lib.hid fun W hW => by have hq := (hW.three hRS hSD).2.2.2; rw [hR] at hq; exact hq
                  clear hcase hce hA2
                  go_upto_region 17 with (go_at_call 15; (with_reducible refine (Q15.out _ (Below.refl _ w1)).mono ?_); rintro e w3 ⟨rfl, rfl⟩)
                  go_region_held3 (fun W => W.cell? ⟨g0, 2, none⟩ = some (.int .i16 n)) (assumption) (first
                    | ((go_at_call 15; (first | ((with_reducible refine (Q15.out _ (below_drewS (Below.refl _ w1))).mono ?_); rintro e w3 ⟨rfl, rfl⟩) | ((with_reducible refine (Q15b.out _ H7.out).mono ?_); rintro e w8 ⟨rfl, rfl⟩))))
                    | ((go_at_call 17; (with_reducible refine (Q17.out _).mono ?_); rintro e w4 ⟨rfl, rfl⟩))
                    | ((go_at_call 16; (with_reducible refine (Q16.out _ (below_drewS (Below.refl _ w1))).mono ?_); rintro e w7 ⟨rfl, h7, j7⟩; have H7 := Lib.hid h7; clear h7)))
                  clear j0 j1 j2 j7 j2d Q16 Q17 Q15 Q15b H1 HJ
                  go_wp2_with fail
                  go_meet
                  exact ⟨_, D, A, cu, rfl, rfl, by omega, by omega, HCU.out, H7.out⟩
                · have Q16b : Hid (∀ W, Below w1.heap.size w1 W → Calls Try.prog 16 #[.pointer (some ⟨p, 0, none⟩), .int .i64 nn] W fun e w' => e = .returned (.int .i64 17) ∧ Below W.heap.size W w') := Lib.hid fun W hW => (H1.out.next hW).read fun _ _ hf => cut_bad hf (by rw [hR]; exact hcase)
                  clear hcase Q16
                  have gj := fun d os => cell_regrown j2 d os
                  have q15 := quiet_call (w := w1) fun W hW => same_below (Q15.out W hW)
                  have q17 := quiet_call (w := w1) fun W _ => same_below (Q17.out W)
                  have q16 := quiet_call (w := w1) fun W hW => Q16b.out W hW
                  go_upto_region 17 with (go_at_call 15; (with_reducible refine (Q15.out _ (Below.refl _ w1)).mono ?_); rintro e w3 ⟨rfl, rfl⟩)
                  refine wp_region_quiet_below (by kernel_rfl) (by kernel_rfl) ?_
                  repeat (go_big_quiet_step ((first | (go_at_call 15; with_reducible exact q15 _ _) | (go_at_call 17; with_reducible exact q17 _ _) | (go_at_call 16; with_reducible exact q16 _ _))))
                  refine wpQuiet_nil ?_
                  intro _ hw'
                  obtain ⟨⟨dq, osq⟩, hw''⟩ := hw'
                  subst hw''
                  have hb7 := below_regrown w1 dq osq
                  generalize Sort.grow (redrawn w1 dq) osq = w7 at hb7 ⊢
                  have H7 := Lib.hid (H1.out.next hb7)
                  clear j0 j1 j2 j2d Q17 Q15 Q16b H1 HJ gj q15 q16 q17 hb7
                  go_wp2_with fail
                  go_meet
                  exact ⟨_, D, A, cu, rfl, rfl, by omega, by omega, HCU.out, H7.out⟩
            · as_aux_lemma =>
                have hnn := sizeT_in n R.length ok2 ok3 (by omega)
                have Q17s := fun W => size_any n R.length W ok2 ok3 (by omega)
                obtain ⟨nn, hnne⟩ : ∃ nn, sizeT n R.length = nn := ⟨_, rfl⟩
                rw [hnne] at hnn Q17s
                have Q17 := Lib.hid Q17s
                clear Q17s hnne
                have hlcut := cutT_length R A nn
                have hbcut := cutT_bulk D R A nn
                have hg0l : g0 < w1.heap.size := by have := HZ1.out; omega
                have Q15 : Hid (∀ W, Below w1.heap.size w1 W → Calls Try.prog 15 #[.pointer (some ⟨p, 0, none⟩)] W fun e w' => e = .returned (.int .i64 (R.length : Nat)) ∧ W = w') := Lib.hid fun W hW => by have hq := ((H1.out.next hW).three hRS hSD).2.2.2; rw [hR] at hq; exact hq
                have Q16 : Hid (∀ W, Below w1.heap.size w1 W → Calls Try.prog 16 #[.pointer (some ⟨p, 0, none⟩), .int .i64 nn] W fun e w' => e = .returned (.int .i64 (cutE R nn)) ∧ Solo wb w' p D (cutT R A nn) (.slice (some ⟨g, 0, none⟩) N cc) (timesT D A) ∧ w'.cell? ⟨g0, 2, none⟩ = some (.int .i16 n)) := Lib.hid fun W hW => by
                  have hz := hW.size
                  have hq := HM.out.went_at (f := 16) (args := #[.pointer (some ⟨p, 0, none⟩), .int .i64 nn]) (Below.next hb1 hW) fun _ _ hf => cut_any hf (by omega) (by omega) (by omega)
                  rw [hR] at hq
                  exact hq.mono fun e w' h' => ⟨h'.1, h'.2.1, (HJ.out w' ((h'.2.2 g0 (by omega) (by omega)).trans (hW.block g0 hg0l))).2.2⟩
                have j2d : w1.drew.cell? ⟨g0, 2, none⟩ = some (.int .i16 n) := j2
                have hcase : (0 ≤ nn ∧ nn < R.length) ∨ nn = R.length ∨ (nn < 0 ∨ (R.length : Int) < nn) := by omega
                rcases hcase with hcase | hcase | hcase
                · obtain ⟨hA2s, hR2c⟩ := reads_cutS D R A nn hR hcase.1 hcase.2
                  have hce : cutE R nn = 0 := by unfold cutE; rw [if_neg (by omega)]
                  obtain ⟨A2, hA2⟩ : ∃ A2, cutT R A nn = A2 := ⟨_, rfl⟩
                  rw [hce, hA2] at Q16
                  rw [hA2] at hA2s hR2c hlcut hbcut
                  obtain ⟨R2, hR2⟩ : ∃ R2, reads D A2 = R2 := ⟨_, rfl⟩
                  obtain ⟨S2, hS2⟩ : ∃ S2, strO R2 = S2 := ⟨_, rfl⟩
                  have hS2' : strO (reads D A2) = S2 := by rw [hR2, hS2]
                  have hrl2 : R2.length < R.length := by rw [← hR2, hR2c, List.length_take]; omega
                  obtain ⟨r2, hr2⟩ : ∃ r2, R2.length = r2 := ⟨_, rfl⟩
                  have Q15b : Hid (∀ W, Solo wb W p D A2 (.slice (some ⟨g, 0, none⟩) N cc) (timesT D A) → Calls Try.prog 15 #[.pointer (some ⟨p, 0, none⟩)] W fun e w' => e = .returned (.int .i64 (r2 : Nat)) ∧ W = w') := Lib.hid fun W hW => by have hq := (hW.three hS2' hSD).2.2.2; rw [hR2, hr2] at hq; exact hq
                  rw [hr2] at hrl2
                  have dl : decide ((r2 : Int) < (R.length : Int)) = true := decide_eq_true (by omega)
                  have HR2 := Lib.hid hR2
                  clear hcase hce hA2 hR2c hr2 hR2 hS2
                  go_upto_region 17 with (go_at_call 15; (with_reducible refine (Q15.out _ (Below.refl _ w1)).mono ?_); rintro e w3 ⟨rfl, rfl⟩)
                  go_region_held3 (fun W => W.cell? ⟨g0, 2, none⟩ = some (.int .i16 n)) (assumption) (first
                    | ((go_at_call 15; (first | ((with_reducible refine (Q15.out _ (below_drewS (Below.refl _ w1))).mono ?_); rintro e w3 ⟨rfl, rfl⟩) | ((with_reducible refine (Q15b.out _ H7.out).mono ?_); rintro e w8 ⟨rfl, rfl⟩))))
                    | ((go_at_call 17; (with_reducible refine (Q17.out _).mono ?_); rintro e w4 ⟨rfl, rfl⟩))
                    | ((go_at_call 16; (with_reducible refine (Q16.out _ (below_drewS (Below.refl _ w1))).mono ?_); rintro e w7 ⟨rfl, h7, j7⟩; have H7 := Lib.hid h7; clear h7)))
                  have q14b := (H7.out.three hS2' hSD).1
                  obtain ⟨N2, hNN⟩ : ∃ N2, N + 1 = N2 := ⟨_, rfl⟩
                  clear j0 j1 j2 j7 j2d Q16 Q17 Q15 Q15b H1 HJ
                  go_wp2_with (first
                    | (go_at_call 14; (with_reducible refine q14b.mono ?_); rintro e w6 ⟨rfl, rfl⟩; clear q14b)
                    | (at_builtin; refine wpList_append_str1 rfl _ _ rfl rfl wb.heap.size (.slice (some ⟨g, 0, none⟩) N cc) N (strs (timesT D A)) w7.heap.size S2 rfl rfl (by rw [cell_of_row _ _ _ _ _ _ (heap_alloc_new w7 _)]; rfl) (owns_next (H7.out.owns HN.out) (below_alloc' (Below.refl _ w7))) (by have := H7.out.below.size; have := (below_alloc' (o := .cells #[.string S2] 9) (Below.refl w7.heap.size w7)).size; omega) (by have := HN.out; omega) ?_; intro v' w13 o13 g13 l13; have h13 := H7.out.more hA2s hS2' (below_alloc' (Below.refl _ w7)) HN.out o13 g13 l13; obtain ⟨g', c', rfl⟩ := owns_some o13 hNN (by have := HN.out; omega); have H13 := Lib.hid h13; clear o13 g13 l13 h13))
                  go_meet
                  exact ⟨_, D, A2, true, rfl, rfl, by omega, by omega, (fun h => by cases h), H13.out⟩
                · have hA2 := cutT_not R A nn (by omega)
                  have hce : cutE R nn = 0 := by unfold cutE; rw [if_neg (by omega)]
                  rw [hce, hA2] at Q16
                  have Q15b : Hid (∀ W, Solo wb W p D A (.slice (some ⟨g, 0, none⟩) N cc) (timesT D A) → Calls Try.prog 15 #[.pointer (some ⟨p, 0, none⟩)] W fun e w' => e = .returned (.int .i64 (R.length : Nat)) ∧ W = w') := Lib.hid fun W hW => by have hq := (hW.three hRS hSD).2.2.2; rw [hR] at hq; exact hq
                  clear hcase hce hA2
                  go_upto_region 17 with (go_at_call 15; (with_reducible refine (Q15.out _ (Below.refl _ w1)).mono ?_); rintro e w3 ⟨rfl, rfl⟩)
                  go_region_held3 (fun W => W.cell? ⟨g0, 2, none⟩ = some (.int .i16 n)) (assumption) (first
                    | ((go_at_call 15; (first | ((with_reducible refine (Q15.out _ (below_drewS (Below.refl _ w1))).mono ?_); rintro e w3 ⟨rfl, rfl⟩) | ((with_reducible refine (Q15b.out _ H7.out).mono ?_); rintro e w8 ⟨rfl, rfl⟩))))
                    | ((go_at_call 17; (with_reducible refine (Q17.out _).mono ?_); rintro e w4 ⟨rfl, rfl⟩))
                    | ((go_at_call 16; (with_reducible refine (Q16.out _ (below_drewS (Below.refl _ w1))).mono ?_); rintro e w7 ⟨rfl, h7, j7⟩; have H7 := Lib.hid h7; clear h7)))
                  clear j0 j1 j2 j7 j2d Q16 Q17 Q15 Q15b H1 HJ
                  go_wp2_with fail
                  go_meet
                  exact ⟨_, D, A, cu, rfl, rfl, by omega, by omega, HCU.out, H7.out⟩
                · have Q16b : Hid (∀ W, Below w1.heap.size w1 W → Calls Try.prog 16 #[.pointer (some ⟨p, 0, none⟩), .int .i64 nn] W fun e w' => e = .returned (.int .i64 17) ∧ Below W.heap.size W w') := Lib.hid fun W hW => (H1.out.next hW).read fun _ _ hf => cut_bad hf (by rw [hR]; exact hcase)
                  clear hcase Q16
                  have gj := fun d os => cell_regrown j2 d os
                  have q15 := quiet_call (w := w1) fun W hW => same_below (Q15.out W hW)
                  have q17 := quiet_call (w := w1) fun W _ => same_below (Q17.out W)
                  have q16 := quiet_call (w := w1) fun W hW => Q16b.out W hW
                  go_upto_region 17 with (go_at_call 15; (with_reducible refine (Q15.out _ (Below.refl _ w1)).mono ?_); rintro e w3 ⟨rfl, rfl⟩)
                  refine wp_region_quiet_below (by kernel_rfl) (by kernel_rfl) ?_
                  repeat (go_big_quiet_step ((first | (go_at_call 15; with_reducible exact q15 _ _) | (go_at_call 17; with_reducible exact q17 _ _) | (go_at_call 16; with_reducible exact q16 _ _))))
                  refine wpQuiet_nil ?_
                  intro _ hw'
                  obtain ⟨⟨dq, osq⟩, hw''⟩ := hw'
                  subst hw''
                  have hb7 := below_regrown w1 dq osq
                  generalize Sort.grow (redrawn w1 dq) osq = w7 at hb7 ⊢
                  have H7 := Lib.hid (H1.out.next hb7)
                  clear j0 j1 j2 j2d Q17 Q15 Q16b H1 HJ gj q15 q16 q17 hb7
                  go_wp2_with fail
                  go_meet
                  exact ⟨_, D, A, cu, rfl, rfl, by omega, by omega, HCU.out, H7.out⟩
            · as_aux_lemma =>
                have Q10 : Hid (Calls Try.prog 10 #[.pointer (some ⟨p, 0, none⟩)] w1 fun e w' => e = .returned (.int .i64 0) ∧ Solo wb w' p R [] (.slice (some ⟨g, 0, none⟩) N cc) (timesT D A)) := Lib.hid (by have hq := H1.out.went (f := 10) (args := #[.pointer (some ⟨p, 0, none⟩)]) fun _ _ hf => sync_any hf; rw [hR] at hq; exact hq)
                have hR0 : strO (reads R []) = S := hS
                clear j1 j2
                go_wp2_with (first
                  | (go_at_call 10; (with_reducible refine Q10.out.mono ?_); rintro e w5 ⟨rfl, h5⟩; have q5 := (h5.three hR0 rfl).1; have H5 := Lib.hid (h5.reset hS); clear h5)
                  | (go_at_call 14; (with_reducible refine q5.mono ?_); rintro e w6 ⟨rfl, rfl⟩; clear q5))
                go_meet
                exact ⟨_, R, [], false, rfl, rfl, by simp, by rw [bulk_nil]; omega, (fun _ a ha => by cases ha), H5.out⟩
            · as_aux_lemma =>
                have hY : ∃ Y : ByteArray, ∃ jj : Nat, Y.size = jj ∧ jj ≤ 20 ∧ (t.size ≤ 20 ∧ Y = t ∨ 20 < t.size ∧ t.extract 0 20 = Y) := by
                  rcases Nat.lt_or_ge 20 t.size with hlt | hge
                  · exact ⟨t.extract 0 20, 20, by rw [ByteArray.size_extract]; omega, by omega, .inr ⟨hlt, rfl⟩⟩
                  · exact ⟨t, t.size, rfl, hge, .inl ⟨hge, rfl⟩⟩
                obtain ⟨Y, jj, hYz, hj20, hY⟩ := hY
                obtain ⟨bb, hbb⟩ : ∃ bb, Y.data.toList = bb := ⟨_, rfl⟩
                have hbl : bb.length = jj := by rw [← hbb, ba_length]; exact hYz
                have hjn : joined [Y] = bb := by rw [← hbb]; simp [joined]
                have hRapp := reads_appS D A bb
                have hlapp := appT_length A bb
                have hbapp := appT_bulk D A bb
                have Q9 : Hid (Calls Try.prog 9 #[.pointer (some ⟨p, 0, none⟩), .slice (some ⟨w1.heap.size, 0, none⟩) 1 1] (w1.alloc (.cells #[.string Y] 9)) fun e w' => e = .returned (.int .i64 0) ∧ Solo wb w' p D (appT A bb) (.slice (some ⟨g, 0, none⟩) N cc) (timesT D A)) := Lib.hid (by
                  have hq := (H1.out.next (below_alloc' (Below.refl _ w1))).went (f := 9) (args := #[.pointer (some ⟨p, 0, none⟩), .slice (some ⟨w1.heap.size, 0, none⟩) 1 1]) fun _ _ hf => append_any hf (strs_lit1 Y w1) (by simp) (by rw [hjn]; omega) (by omega)
                  rw [hjn] at hq
                  exact hq)
                have HAP := Lib.hid (fun h => (HCU.out h).appT bb)
                have HS2 := Lib.hid (fun h : bb ≠ [] => show appT A bb = A ++ [.app bb] by unfold appT; rw [if_neg h])
                have HS1 := Lib.hid (fun h : bb = [] => show appT A bb = A by unfold appT; rw [if_pos h])
                obtain ⟨A2, hA2⟩ : ∃ A2, appT A bb = A2 := ⟨_, rfl⟩
                rw [hA2] at Q9 hRapp hlapp hbapp HAP HS2 HS1
                rw [hR] at hRapp
                obtain ⟨R2, hR2⟩ : ∃ R2, reads D A2 = R2 := ⟨_, rfl⟩
                obtain ⟨S2, hS2⟩ : ∃ S2, strO R2 = S2 := ⟨_, rfl⟩
                have hS2' : strO (reads D A2) = S2 := by rw [hR2, hS2]
                rw [hR2] at hRapp
                go_upto_region 11 with fail
                go_cut [11] from 49 to 58 (fun s11 wx => s11 = .pointer (some ⟨g0, 0, none⟩) ∧ Solo wb wx p D A2 (.slice (some ⟨g, 0, none⟩) N cc) (timesT D A))
                case first =>
                  rcases hY with ⟨hle, rfl⟩ | ⟨hgt, hY⟩
                  · have hXX : Y.extract 0 jj = Y := by rw [← hYz, ByteArray.extract_zero_size]
                    go_wp2_with (go_at_call 9; (with_reducible refine Q9.out.mono ?_); rintro e w5 ⟨rfl, h5⟩; have H5 := Lib.hid h5; clear h5)
                    go_meet
                    exact ⟨rfl, H5.out⟩
                  · go_wp2_with (go_at_call 9; (with_reducible refine Q9.out.mono ?_); rintro e w5 ⟨rfl, h5⟩; have H5 := Lib.hid h5; clear h5)
                    go_meet
                    exact ⟨rfl, H5.out⟩
                case rest =>
                obtain ⟨rfl, hcut⟩ := hcut
                have H5 := Lib.hid hcut
                obtain ⟨w5, hw5⟩ : ∃ w5, w5 = wc := ⟨_, rfl⟩
                rw [← hw5] at H5
                rw [← hw5]
                clear hcut hw5 Q9 H1 j0 j1 j2 HJ hY
                obtain ⟨hN5, hc5, hm5, hcell5⟩ := solo_row H5.out
                have y1 := hcell5 _ (Below.refl _ _) A.length (Nat.le_refl _)
                rw [List.take_length, hRS] at y1
                obtain ⟨L, hL⟩ : ∃ L, A.length = L := ⟨_, rfl⟩
                rw [hL] at y1
                have gy1 := fun d os => cell_regrown y1 d os
                have q14 := quiet_call (w := w5) fun w1 hb => same_below ((H5.out.next hb).three hS2' hSD).1
                have i24 : (N : Int) - 1 = (L : Int) := by omega
                have j24 : (L : Int) < (N : Int) := by omega
                clear hcell5 y1 hc5 hm5 hN5
                by_cases hb0 : bb = []
                · have hA2s := HS1.out hb0
                  have hSS : S2 = S := by rw [← hS2', hA2s, hRS]
                  subst hSS
                  have x1 := str_neq S2
                  subst hA2s
                  go_wp2
                  refine wp_region_quiet_below (by kernel_rfl) (by kernel_rfl) ?_
                  repeat (go_big_quiet_step ((go_at_call 14; with_reducible exact q14 _ _)))
                  refine wpQuiet_nil ?_
                  intro _ hw'
                  obtain ⟨⟨dq, osq⟩, hw''⟩ := hw'
                  subst hw''
                  have hb12 := below_regrown w5 dq osq
                  generalize Sort.grow (redrawn w5 dq) osq = w12 at hb12 ⊢
                  have H12 := Lib.hid (H5.out.next hb12)
                  clear gy1 q14 hb12 i24 j24 x1
                  go_wp2_with fail
                  go_meet
                  exact ⟨_, D, A2, cu, rfl, rfl, by omega, by omega, HAP.out, H12.out⟩
                · have hA2s := HS2.out hb0
                  have hne : (S2.toList == S.toList) = false := by
                    rw [toList_beq]
                    refine decide_eq_false fun h => hb0 ?_
                    have h2 := congrArg (fun a : ByteArray => a.data.toList) h
                    rw [← hS2, ← hS] at h2
                    simpa [strO, hRapp] using h2
                  go_wp2
                  refine wp_region_quiet_below (by kernel_rfl) (by kernel_rfl) ?_
                  repeat (go_big_quiet_step ((go_at_call 14; with_reducible exact q14 _ _)))
                  refine wpQuiet_nil ?_
                  intro _ hw'
                  obtain ⟨⟨dq, osq⟩, hw''⟩ := hw'
                  subst hw''
                  have hb12 := below_regrown w5 dq osq
                  generalize Sort.grow (redrawn w5 dq) osq = w12 at hb12 ⊢
                  have H12 := Lib.hid (H5.out.next hb12)
                  obtain ⟨N2, hNN⟩ : ∃ N2, N + 1 = N2 := ⟨_, rfl⟩
                  have q14b := (H12.out.three hS2' hSD).1
                  clear gy1 q14 hb12 i24 j24
                  go_wp2_with (first
                    | (go_at_call 14; (with_reducible refine q14b.mono ?_); rintro e w6 ⟨rfl, rfl⟩; clear q14b)
                    | (at_builtin; refine wpList_append_str1 rfl _ _ rfl rfl wb.heap.size (.slice (some ⟨g, 0, none⟩) N cc) N (strs (timesT D A)) w12.heap.size S2 rfl rfl (by rw [cell_of_row _ _ _ _ _ _ (heap_alloc_new w12 _)]; rfl) (owns_next (H12.out.owns HN.out) (below_alloc' (Below.refl _ w12))) (by have := H12.out.below.size; have := (below_alloc' (o := .cells #[.string S2] 9) (Below.refl w12.heap.size w12)).size; omega) (by have := HN.out; omega) ?_; intro v' w13 o13 g13 l13; have h13 := H12.out.more hA2s hS2' (below_alloc' (Below.refl _ w12)) HN.out o13 g13 l13; obtain ⟨g', c', rfl⟩ := owns_some o13 hNN (by have := HN.out; omega); have H13 := Lib.hid h13; clear o13 g13 l13 h13))
                  go_meet
                  exact ⟨_, D, A2, cu, rfl, rfl, by omega, by omega, HAP.out, H13.out⟩
          case rest =>
          obtain ⟨z12, D2, A2, cu2, rfl, rfl, hA2l, hB2, hcu2, hm2⟩ := hcut
          obtain ⟨g2, cc2, N2, rfl, hN2⟩ := solo_some hm2
          have H2x := Lib.hid hm2
          have HCU2 := Lib.hid hcu2
          obtain ⟨S2, hS2⟩ : ∃ S2, strO (reads D2 A2) = S2 := ⟨_, rfl⟩
          obtain ⟨SD2, hSD2⟩ : ∃ SD2, strO D2 = SD2 := ⟨_, rfl⟩
          obtain ⟨L2, hL2⟩ : ∃ L2, A2.length = L2 := ⟨_, rfl⟩
          clear hm2 hcu2 hN2 j0 j1 j2 hy
          go_upto_region 24 with fail
          have hr24 := solo_row H2x.out
          obtain ⟨hN24, hc24, hm24, hcell24⟩ := hr24
          have y1 := hcell24 _ (Below.refl _ _) L2 (by omega)
          have y0 := hcell24 _ (Below.refl _ _) 0 (by omega)
          rw [show A2.take L2 = A2 from List.take_of_length_le (by omega), hS2] at y1
          rw [List.take_zero, reads_nil, hSD2] at y0
          have gy1 := fun d os => cell_regrown y1 d os
          have gy0 := fun d os => cell_regrown y0 d os
          have q14 := quiet_call (w := wc) fun w1 hb => same_below ((H2x.out.next hb).three hS2 hSD2).1
          have q18 := quiet_call (w := wc) fun w1 hb => same_below ((H2x.out.next hb).three hS2 hSD2).2.1
          have q19 := quiet_call (w := wc) fun w1 hb => same_below ((H2x.out.next hb).three hS2 hSD2).2.2.1
          have x1 := str_neq S2
          have x2 := str_neq SD2
          have i24 : (N2 : Int) - 1 = (L2 : Int) := by omega
          have j24 : (L2 : Int) < (N2 : Int) := by omega
          have l24 : A2.length = L2 := by omega
          rw [l24] at q19
          clear hcell24 y1 y0 hN24 hc24 hm24
          refine wp_region_quiet_below (by kernel_rfl) (by kernel_rfl) ?_
          repeat (go_big_quiet_step ((first | (go_at_call 14; with_reducible exact q14 _ _) | (go_at_call 18; with_reducible exact q18 _ _) | (go_at_call 19; with_reducible exact q19 _ _))))
          refine wpQuiet_nil ?_
          intro _ hw'
          obtain ⟨⟨dq, osq⟩, hw''⟩ := hw'
          subst hw''
          have hb24 := below_regrown wc dq osq
          generalize Sort.grow (redrawn wc dq) osq = w24 at hb24 ⊢
          have H24 := Lib.hid (H2x.out.next hb24)
          clear gy1 gy0 q14 q18 q19 hb24
          go_wp2
          exact ⟨⟨k + 1, D2, A2, cu2, by omega, by omega, by go_num, rfl, by omega, by omega, HCU2.out, H24.out⟩, by simp [intOf]; omega⟩
        · have hm := HMM.out
          have hcu := HCU.out
          clear HMM HCU
          go_wp2_with fail
          go_meet
          exact ⟨k, D, A, cu, hk, rfl, rfl, hA, hB, hcu, hm⟩
  case rest =>
  obtain ⟨k, D, A, cu, hk, rfl, rfl, hA, hB, hcu, hm⟩ := hcut
  have HCU := Lib.hid hcu
  have HMM := Lib.hid hm
  clear hcu hm
  have hm := HMM.out
  obtain ⟨g, cc, N, rfl, hN⟩ := solo_some hm
  have HM := Lib.hid hm
  have HN := Lib.hid hN
  have hrl := reads_length D A
  obtain ⟨L, hL⟩ : ∃ L, A.length = L := ⟨_, rfl⟩
  have hLN : N = L + 1 := by omega
  have HLN := Lib.hid hLN
  obtain ⟨R, hR⟩ : ∃ R, reads D A = R := ⟨_, rfl⟩
  obtain ⟨S, hS⟩ : ∃ S, strO R = S := ⟨_, rfl⟩
  obtain ⟨SD, hSD⟩ : ∃ SD, strO D = SD := ⟨_, rfl⟩
  have hRS : strO (reads D A) = S := by rw [hR, hS]
  rw [hR] at hrl
  obtain ⟨z0, z1⟩ := HP.out wc hm.below
  have gz0 := fun d os => cell_regrown z0 d os
  have gz1 := fun d os => cell_regrown z1 d os
  have hd := sizeT_in c0 L hc0.1 hc0.2 (by omega)
  have Q17s := fun W => size_any c0 L W hc0.1 hc0.2 (by omega)
  obtain ⟨d, hde⟩ : ∃ d, sizeT c0 L = d := ⟨_, rfl⟩
  rw [hde] at hd Q17s
  have q17 := quiet_call (w := wc) fun W _ => same_below (Q17s W)
  have q19 := quiet_call (w := wc) fun w1 hb => same_below ((HM.out.next hb).three hRS hSD).2.2.1
  rw [hL] at q19
  clear hm hN hLN z0 z1 Q17s hde HC
  go_upto_region 26 with fail
  refine wp_region_quiet_below (by kernel_rfl) (by kernel_rfl) ?_
  repeat (go_big_quiet_step ((first | (go_at_call 19; with_reducible exact q19 _ _) | (go_at_call 17; with_reducible exact q17 _ _))))
  refine wpQuiet_nil ?_
  intro _ hw'
  obtain ⟨⟨dq, osq⟩, hw''⟩ := hw'
  subst hw''
  have hb26 := below_regrown wc dq osq
  generalize Sort.grow (redrawn wc dq) osq = w26 at hb26 ⊢
  have H26 := Lib.hid (HM.out.next hb26)
  clear hb26
  clear gz0 gz1 q17 q19
  have Q8a : Hid (Calls Try.prog 8 #[.pointer (some ⟨p, 0, none⟩)] w26 fun e w' => ∃ q, e = .returned (.pointer (some ⟨q, 0, none⟩)) ∧ Twin wb w' p D A q (.slice (some ⟨g, 0, none⟩) N cc) (timesT D A)) := Lib.hid (H26.out.copy (by omega))
  have Q8b : Hid (∀ W q, Twin wb W p D A q (.slice (some ⟨g, 0, none⟩) N cc) (timesT D A) → Calls Try.prog 8 #[.pointer (some ⟨p, 0, none⟩)] W fun e w' => ∃ r, e = .returned (.pointer (some ⟨r, 0, none⟩)) ∧ Quad wb w' p D A q D A r D A (.slice (some ⟨g, 0, none⟩) N cc) (timesT D A)) := Lib.hid fun W q h => h.copy (by omega)
  obtain ⟨AT, hAT⟩ : ∃ AT, stays D A d c1 = AT := ⟨_, rfl⟩
  have hbk := stays_le D A d c1
  rw [hAT] at hbk
  obtain ⟨SA, hSA⟩ : ∃ SA, strO AT = SA := ⟨_, rfl⟩
  have Q20a : Hid (∀ W q r, Quad wb W p D A q D A r D A (.slice (some ⟨g, 0, none⟩) N cc) (timesT D A) → Calls Try.prog 20 #[.pointer (some ⟨q, 0, none⟩), .agg #[.int .i64 d, .int .i64 c1]] W fun e w' => e = .returned (.int .i64 0) ∧ Quad wb w' p D A q AT [] r D A (.slice (some ⟨g, 0, none⟩) N cc) (timesT D A)) := Lib.hid fun W q r h => by
    have hq := h.went (f := 20) (args := #[.pointer (some ⟨q, 0, none⟩), .agg #[.int .i64 d, .int .i64 c1]]) fun _ _ hf => stay_any hf (by omega) (by omega) (by omega) (by omega) (by omega)
    rw [hAT] at hq
    exact hq
  have Q20b : Hid (∀ W q r, Quad wb W p D A q AT [] r D A (.slice (some ⟨g, 0, none⟩) N cc) (timesT D A) → Calls Try.prog 20 #[.pointer (some ⟨r, 0, none⟩), .agg #[.int .i64 1000, .int .i64 1000]] W fun e w' => e = .returned (.int .i64 0) ∧ Quad wb w' p D A q AT [] r R [] (.slice (some ⟨g, 0, none⟩) N cc) (timesT D A)) := Lib.hid fun W q r h => by
    have hq := h.swap.went (f := 20) (args := #[.pointer (some ⟨r, 0, none⟩), .agg #[.int .i64 1000, .int .i64 1000]]) fun _ _ hf => stay_any hf (by omega) (by omega) (by omega) (by omega) (by omega)
    rw [stays_all 1000 1000 (by omega), hR] at hq
    exact hq.mono fun e w' h' => ⟨h'.1, h'.2.swap⟩
  have Q14q : Hid (∀ W q r, Quad wb W p D A q AT [] r R [] (.slice (some ⟨g, 0, none⟩) N cc) (timesT D A) → Calls Try.prog 14 #[.pointer (some ⟨q, 0, none⟩)] W fun e w' => e = .returned (.string SA) ∧ W = w') := Lib.hid fun W q r h => by rw [← hSA]; exact h.read2 fun _ _ hf => bytes_any hf
  go_upto_region 32 with (first
    | (go_at_call 8; first | ((with_reducible refine Q8a.out.mono ?_); rintro e w27 ⟨q, rfl, h27⟩; have H27 := Lib.hid h27; clear h27 Q8a) | ((with_reducible refine (Q8b.out _ _ H27.out).mono ?_); rintro e w28 ⟨r, rfl, h28⟩; have H28 := Lib.hid h28; clear h28 Q8b))
    | (go_at_call 20; first | ((with_reducible refine (Q20a.out _ _ _ H28.out).mono ?_); rintro e w29 ⟨rfl, h29⟩; have H29 := Lib.hid h29; clear h29 Q20a) | ((with_reducible refine (Q20b.out _ _ _ H29.out).mono ?_); rintro e w30 ⟨rfl, h30⟩; have H30 := Lib.hid h30; clear h30 Q20b)))
  obtain ⟨n0, hn0⟩ : ∃ n0, upTo d L = n0 := ⟨_, rfl⟩
  have hn0i : (n0 : Int) = max (min d (L : Int)) 0 := by rw [← hn0]; unfold upTo; omega
  have hn0L : n0 ≤ L := by omega
  have i32 : (N : Int) - 1 = (L : Int) := by have := HLN.out; omega
  have HI := Lib.hid hn0i
  clear hn0i
  go_cut [17] from 155 to 160 (fun s17 wx => s17 = .int .i64 (n0 : Int) ∧ Below w30.heap.size w30 wx)
  case first =>
    go_wp2
    all_goals
      go_meet
      refine ⟨?_, Below.refl _ _⟩
      congr 1
      have := HI.out
      omega
  case rest =>
  obtain ⟨rfl, hbc⟩ := hcut
  have H32 := Lib.hid (H30.out.next hbc)
  clear H30 hbc i32
  go_upto_region 34 with (go_at_call 14; (with_reducible refine (Q14q.out _ _ _ H32.out).mono ?_); rintro e w34 ⟨rfl, rfl⟩)
  obtain ⟨T0l, hT0l⟩ : ∃ T0l, reads D (A.take n0) = T0l := ⟨_, rfl⟩
  have HT0L := Lib.hid hT0l
  obtain ⟨T0, hT0⟩ : ∃ T0, strO T0l = T0 := ⟨_, rfl⟩
  have hT0z : T0.size = T0l.length := by rw [← hT0, strO_size]
  have y0 := quad_row H32.out _ (Below.refl _ _) n0 (by omega)
  rw [hT0l, hT0] at y0
  have gy0 := fun d os => cell_regrown y0 d os
  have hSAz : SA.size = AT.length := by rw [← hSA, strO_size]
  have jn0 : (n0 : Int) < (N : Int) := by have := HLN.out; omega
  have kinds : (n0 = L ∧ AT = T0l) ∨ (∃ T1l : List UInt8, n0 < L ∧ reads D (A.take (n0 + 1)) = T1l ∧ T1l.length < T0l.length ∧ AT = T0l) ∨
      (∃ (b : List UInt8) (T1l : List UInt8), n0 < L ∧ reads D (A.take (n0 + 1)) = T1l ∧ T1l = T0l ++ b ∧ b ≠ [] ∧ AT = T0l ++ b.take (upTo c1 b.length)) := by
    have hu : upTo d A.length = n0 := by rw [hL]; exact hn0
    by_cases he : n0 = L
    · refine .inl ⟨he, ?_⟩
      rw [← hAT, stays_end d c1 (by rw [hu, hL, he]), ← hT0l, he, ← hL, List.take_length]
    · have hlt : n0 < A.length := by omega
      have hfit : Fits D A := by
        obtain ⟨_, _, _, _, _, _, h1, _⟩ := H32.out
        exact h1.fits
      have hfa := fits_at hfit n0 hlt
      cases ha : A[n0] with
      | cut m =>
        obtain ⟨s1, s2⟩ := stays_cut (q := c1) hu hlt ha
        rw [ha] at hfa
        have hm := hfa.1
        refine .inr (.inl ⟨_, by omega, rfl, ?_, by rw [← hAT, s1, hT0l]⟩)
        rw [s2, List.length_take]
        rw [← hT0l]
        omega
      | app b =>
        obtain ⟨s1, s2⟩ := stays_app (q := c1) hu hlt ha
        rw [ha] at hfa
        exact .inr (.inr ⟨b, _, by omega, rfl, by rw [s2, hT0l], hfa.1, by rw [← hAT, s1, hT0l]⟩)
  obtain ⟨n1, hn1⟩ : ∃ n1, n0 + 1 = n1 := ⟨_, rfl⟩
  have i1 : (n0 : Int) + 1 = (n1 : Int) := by omega
  have HY1 : Hid (n0 < L → ∀ T1l, reads D (A.take (n0 + 1)) = T1l → wc.cell? ⟨g, n1, none⟩ = some (.string (strO T1l))) := Lib.hid fun h T1l ht => by
    have := quad_row H32.out _ (Below.refl _ _) (n0 + 1) (by omega)
    rw [ht, hn1] at this
    exact this
  have HK := Lib.hid kinds
  clear kinds hn0 y0 hT0l
  have hkb : ∃ b19 : Bool, (b19 = false ∧ n0 = L ∧ AT = T0l) ∨ (b19 = false ∧ ∃ T1l : List UInt8, n0 < L ∧ reads D (A.take (n0 + 1)) = T1l ∧ T1l.length < T0l.length ∧ AT = T0l) ∨
      (b19 = true ∧ ∃ (b : List UInt8) (T1l : List UInt8), n0 < L ∧ reads D (A.take (n0 + 1)) = T1l ∧ T1l = T0l ++ b ∧ b ≠ [] ∧ AT = T0l ++ b.take (upTo c1 b.length)) := by
    rcases HK.out with h | h | h
    · exact ⟨false, .inl ⟨rfl, h⟩⟩
    · exact ⟨false, .inr (.inl ⟨rfl, h⟩)⟩
    · exact ⟨true, .inr (.inr ⟨rfl, h⟩)⟩
  obtain ⟨b19, hkb⟩ := hkb
  have HKB := Lib.hid hkb
  clear hkb HK
  go_cut [19] from 163 to 218 (fun s19 wx => s19 = .bool b19 ∧ Below wc.heap.size wc wx)
  case first =>
    rcases HKB.out with ⟨rfl, he, hA1⟩ | ⟨rfl, T1l, hlt, hT1, hlt1, hA1⟩ | ⟨rfl, b, T1l, hlt, hT1, hT1b, hb0, hA1⟩
    · have j1 : ¬ (n1 : Int) < (N : Int) := by have := HLN.out; omega
      have j1d : decide ((n1 : Int) < (N : Int)) = false := decide_eq_false j1
      clear HI he
      refine wp_region_quiet_below (by kernel_rfl) (by kernel_rfl) ?_
      repeat (go_big_quiet_step (fail))
      refine wpQuiet_nil ?_
      intro _ hw'
      obtain ⟨⟨dq, osq⟩, hw''⟩ := hw'
      subst hw''
      have HB34 := Lib.hid (below_regrown wc dq osq)
      generalize Sort.grow (redrawn wc dq) osq = w34 at HB34 ⊢
      go_wp2
      go_meet
      exact ⟨rfl, HB34.out⟩
    · have y1 := HY1.out hlt T1l hT1
      obtain ⟨T1, hT1s⟩ : ∃ T1, strO T1l = T1 := ⟨_, rfl⟩
      have hT1z : T1.size = T1l.length := by rw [← hT1s, strO_size]
      rw [hT1s] at y1
      have gy1 := fun d os => cell_regrown y1 d os
      have j1 : (n1 : Int) < (N : Int) := by have := HLN.out; omega
      have j1d : decide ((n1 : Int) < (N : Int)) = true := decide_eq_true j1
      obtain ⟨t0, ht0⟩ : ∃ t0, T0l.length = t0 := ⟨_, rfl⟩
      obtain ⟨t1, ht1⟩ : ∃ t1, T1l.length = t1 := ⟨_, rfl⟩
      rw [ht0] at hT0z hlt1
      rw [ht1] at hT1z hlt1
      have k1d : decide ((t0 : Int) < (t1 : Int)) = false := decide_eq_false (by omega)
      have k1n : decide (t0 < t1) = false := decide_eq_false (by omega)
      clear HI y1 hT1 hT1s hlt hA1 ht0 ht1 hlt1
      refine wp_region_quiet_below (by kernel_rfl) (by kernel_rfl) ?_
      repeat (go_big_quiet_step (fail))
      refine wpQuiet_nil ?_
      intro _ hw'
      obtain ⟨⟨dq, osq⟩, hw''⟩ := hw'
      subst hw''
      have HB34 := Lib.hid (below_regrown wc dq osq)
      generalize Sort.grow (redrawn wc dq) osq = w34 at HB34 ⊢
      go_wp2
      go_meet
      exact ⟨rfl, HB34.out⟩
    · have y1 := HY1.out hlt T1l hT1
      obtain ⟨T1, hT1s⟩ : ∃ T1, strO T1l = T1 := ⟨_, rfl⟩
      have hT1z : T1.size = T1l.length := by rw [← hT1s, strO_size]
      rw [hT1s] at y1
      have gy1 := fun d os => cell_regrown y1 d os
      have j1 : (n1 : Int) < (N : Int) := by have := HLN.out; omega
      have j1d : decide ((n1 : Int) < (N : Int)) = true := decide_eq_true j1
      have hbl : 0 < b.length := List.length_pos_iff.2 hb0
      have hTl : T1l.length = T0l.length + b.length := by rw [hT1b, List.length_append]
      have k1d : decide ((T0l.length : Int) < (T1l.length : Int)) = true := decide_eq_true (by omega)
      have hp1 : AT <+: T1l := by rw [hA1, hT1b]; exact (List.prefix_append_right_inj _).2 (List.take_prefix _ _)
      have hp2 : T0l <+: AT := by rw [hA1]; exact List.prefix_append _ _
      have q21a := quiet_call (w := wc) fun W _ => same_below (has_true T1l AT W hp1)
      have q21b := quiet_call (w := wc) fun W _ => same_below (has_true AT T0l W hp2)
      rw [hT1s, hSA] at q21a
      rw [hT0, hSA] at q21b
      have ht1b : T1l.length ≤ 1000 := by have h1 := reads_length D (A.take (n0 + 1)); have h2 := bulk_take D A (n0 + 1); rw [hT1] at h1; omega
      have hAl : AT.length = T0l.length + min (upTo c1 b.length) b.length := by rw [hA1, List.length_append, List.length_take]
      obtain ⟨sa, hsa⟩ : ∃ sa, AT.length = sa := ⟨_, rfl⟩
      obtain ⟨t0, ht0⟩ : ∃ t0, T0l.length = t0 := ⟨_, rfl⟩
      obtain ⟨t1, ht1⟩ : ∃ t1, T1l.length = t1 := ⟨_, rfl⟩
      rw [hsa] at hAl hSAz
      rw [ht0] at hAl hTl hT0z k1d
      rw [ht1] at hTl hT1z k1d ht1b
      have hk3 : (c1 ≤ 0 ∧ sa = t0) ∨ (0 < c1 ∧ (t0 : Int) + c1 < (t1 : Int) ∧ (t0 : Int) + c1 = (sa : Int)) ∨ (0 < c1 ∧ ¬ (t0 : Int) + c1 < (t1 : Int) ∧ sa = t1) := by
        unfold upTo at hAl
        omega
      have HTT := Lib.hid (show t0 < t1 by omega)
      have hsab : sa ≤ 1000 := by omega
      clear HI y1 hT1 hT1s hlt hA1 hAl hTl hp1 hp2 hT1b hb0 hbl hsa ht0 ht1
      have u2 := HTT.out
      obtain ⟨mx, hmx⟩ : ∃ mx : Int, (if (0 : Int) < c1 then c1 else 0) = mx := ⟨_, rfl⟩
      have hmx2 : (c1 ≤ 0 ∧ mx = 0) ∨ (0 < c1 ∧ mx = c1) := by rw [← hmx]; split <;> omega
      obtain ⟨uu, huu⟩ : ∃ uu : Nat, (t0 : Int) + mx = (uu : Int) := ⟨((t0 : Int) + mx).toNat, by omega⟩
      have u4 : wrap64 ((t0 : Int) + mx) = (uu : Int) := by rw [huu]; unfold wrap64; omega
      rcases Nat.lt_or_ge uu t1 with hlt | hge
      · have hlt' : (uu : Int) < (t1 : Int) := by omega
        have u3 : (if (uu : Int) < (t1 : Int) then (uu : Int) else (t1 : Int)) = (uu : Int) := if_pos hlt'
        have hsu : (sa : Int) = (uu : Int) := by omega
        have hse : ((sa : Int) == (uu : Int)) = true := by simp [hsu]
        clear hk3 hmx2 hlt hsu
        refine wp_region_quiet_below (by kernel_rfl) (by kernel_rfl) ?_
        repeat (go_big_quiet_step ((go_at_call 21; first | (with_reducible exact q21a _ _) | (with_reducible exact q21b _ _))))
        refine wpQuiet_nil ?_
        intro _ hw'
        obtain ⟨⟨dq, osq⟩, hw''⟩ := hw'
        subst hw''
        have HB34 := Lib.hid (below_regrown wc dq osq)
        generalize Sort.grow (redrawn wc dq) osq = w34 at HB34 ⊢
        go_wp2
        go_meet
        exact ⟨rfl, HB34.out⟩
      · have hge' : ¬ (uu : Int) < (t1 : Int) := by omega
        have u3 : (if (uu : Int) < (t1 : Int) then (uu : Int) else (t1 : Int)) = (t1 : Int) := if_neg hge'
        have hsu : (sa : Int) = (t1 : Int) := by omega
        have hse : ((sa : Int) == (t1 : Int)) = true := by simp [hsu]
        clear hk3 hmx2 hge hsu
        refine wp_region_quiet_below (by kernel_rfl) (by kernel_rfl) ?_
        repeat (go_big_quiet_step ((go_at_call 21; first | (with_reducible exact q21a _ _) | (with_reducible exact q21b _ _))))
        refine wpQuiet_nil ?_
        intro _ hw'
        obtain ⟨⟨dq, osq⟩, hw''⟩ := hw'
        subst hw''
        have HB34 := Lib.hid (below_regrown wc dq osq)
        generalize Sort.grow (redrawn wc dq) osq = w34 at HB34 ⊢
        go_wp2
        go_meet
        exact ⟨rfl, HB34.out⟩
  case rest =>
  obtain ⟨rfl, hbc⟩ := hcut
  have h34 := H32.out.next hbc
  have H34 := Lib.hid h34
  have y0 := quad_row h34 _ (Below.refl _ _) n0 (by omega)
  have HY2 : Hid (n0 < L → ∀ T1l, reads D (A.take (n0 + 1)) = T1l → wc.cell? ⟨g, n1, none⟩ = some (.string (strO T1l))) := Lib.hid fun h T1l ht => by
    have := quad_row h34 _ (Below.refl _ _) (n0 + 1) (by omega)
    rw [ht, hn1] at this
    exact this
  have HT0r : Hid (reads D (A.take n0) = T0l) := HT0L
  rw [HT0r.out, hT0] at y0
  clear gy0
  have gy0 := fun d os => cell_regrown y0 d os
  clear h34 hbc y0 H32 HY1
  go_upto_region 35 with fail
  go_cut [20] from 219 to 249 (fun s20 wx => ∃ b20 : Bool, s20 = .bool b20 ∧ (b19 = false → b20 = true) ∧ Below wc.heap.size wc wx)
  case first =>
    rcases HKB.out with ⟨_, he, hA1⟩ | ⟨_, T1l, hlt, hT1, hlt1, hA1⟩ | ⟨hb, b, T1l, hlt, hT1, hT1b, hb0, hA1⟩
    · rename_i hbx
      clear hbx
      have hss : SA = T0 := by rw [← hSA, hA1, hT0]
      subst hss
      have x1 := str_self SA
      have i2 : n1 = N := by have := HLN.out; omega
      subst i2
      clear HI he hA1
      by_cases hc : c1 ≤ 0
      · have hcd : decide (c1 ≤ 0) = true := decide_eq_true hc
        refine wp_region_quiet_below (by kernel_rfl) (by kernel_rfl) ?_
        repeat (go_big_quiet_step (fail))
        refine wpQuiet_nil ?_
        intro _ hw'
        obtain ⟨⟨dq, osq⟩, hw''⟩ := hw'
        subst hw''
        have HB35 := Lib.hid (below_regrown wc dq osq)
        generalize Sort.grow (redrawn wc dq) osq = w35 at HB35 ⊢
        go_wp2
        go_meet
        exact ⟨_, rfl, fun _ => rfl, HB35.out⟩
      · have hcd : decide (c1 ≤ 0) = false := decide_eq_false hc
        refine wp_region_quiet_below (by kernel_rfl) (by kernel_rfl) ?_
        repeat (go_big_quiet_step (fail))
        refine wpQuiet_nil ?_
        intro _ hw'
        obtain ⟨⟨dq, osq⟩, hw''⟩ := hw'
        subst hw''
        have HB35 := Lib.hid (below_regrown wc dq osq)
        generalize Sort.grow (redrawn wc dq) osq = w35 at HB35 ⊢
        go_wp2
        go_meet
        exact ⟨_, rfl, fun _ => rfl, HB35.out⟩
    · rename_i hbx
      clear hbx
      have hss : SA = T0 := by rw [← hSA, hA1, hT0]
      subst hss
      have x1 := str_self SA
      have y1 := HY2.out hlt T1l hT1
      obtain ⟨T1, hT1s⟩ : ∃ T1, strO T1l = T1 := ⟨_, rfl⟩
      have hT1z : T1.size = T1l.length := by rw [← hT1s, strO_size]
      rw [hT1s] at y1
      have gy1 := fun d os => cell_regrown y1 d os
      have j1 : (n1 : Int) < (N : Int) := by have := HLN.out; omega
      have j2 : ((n1 : Int) == (N : Int)) = false := by simp; omega
      obtain ⟨t0, ht0⟩ : ∃ t0, T0l.length = t0 := ⟨_, rfl⟩
      obtain ⟨t1, ht1⟩ : ∃ t1, T1l.length = t1 := ⟨_, rfl⟩
      rw [ht0] at hT0z hlt1
      rw [ht1] at hT1z hlt1
      have k1d : decide ((t1 : Int) < (t0 : Int)) = true := decide_eq_true (by omega)
      clear HI y1 hT1 hT1s hlt hA1 ht0 ht1 hSAz
      by_cases hc : c1 ≤ 0
      · have hcd : decide (c1 ≤ 0) = true := decide_eq_true hc
        refine wp_region_quiet_below (by kernel_rfl) (by kernel_rfl) ?_
        repeat (go_big_quiet_step (fail))
        refine wpQuiet_nil ?_
        intro _ hw'
        obtain ⟨⟨dq, osq⟩, hw''⟩ := hw'
        subst hw''
        have HB35 := Lib.hid (below_regrown wc dq osq)
        generalize Sort.grow (redrawn wc dq) osq = w35 at HB35 ⊢
        go_wp2
        go_meet
        exact ⟨_, rfl, fun _ => rfl, HB35.out⟩
      · have hcd : decide (c1 ≤ 0) = false := decide_eq_false hc
        refine wp_region_quiet_below (by kernel_rfl) (by kernel_rfl) ?_
        repeat (go_big_quiet_step (fail))
        refine wpQuiet_nil ?_
        intro _ hw'
        obtain ⟨⟨dq, osq⟩, hw''⟩ := hw'
        subst hw''
        have HB35 := Lib.hid (below_regrown wc dq osq)
        generalize Sort.grow (redrawn wc dq) osq = w35 at HB35 ⊢
        go_wp2
        go_meet
        exact ⟨_, rfl, fun _ => rfl, HB35.out⟩
    · subst hb
      by_cases hc : c1 ≤ 0
      · have hcd : decide (c1 ≤ 0) = true := decide_eq_true hc
        have hss : SA = T0 := by
          rw [← hSA, hA1, ← hT0]
          have : upTo c1 b.length = 0 := by unfold upTo; omega
          rw [this]; simp
        subst hss
        have x1 := str_self SA
        clear HI hT1 hlt hA1 hT1b hb0
        refine wp_region_quiet_below (by kernel_rfl) (by kernel_rfl) ?_
        repeat (go_big_quiet_step (fail))
        refine wpQuiet_nil ?_
        intro _ hw'
        obtain ⟨⟨dq, osq⟩, hw''⟩ := hw'
        subst hw''
        have HB35 := Lib.hid (below_regrown wc dq osq)
        generalize Sort.grow (redrawn wc dq) osq = w35 at HB35 ⊢
        go_wp2
        go_meet
        exact ⟨_, rfl, (fun h => by cases h), HB35.out⟩
      · have hbl : 0 < b.length := List.length_pos_iff.2 hb0
        have hne : (SA.toList == T0.toList) = false := by
          rw [toList_beq]
          refine decide_eq_false fun h => ?_
          have h2 := congrArg ByteArray.size h
          rw [hSAz, hT0z, hA1, List.length_append, List.length_take] at h2
          unfold upTo at h2
          omega
        clear HI hT1 hlt hA1 hT1b hb0 hbl
        refine wp_region_quiet_below (by kernel_rfl) (by kernel_rfl) ?_
        repeat (go_big_quiet_step (fail))
        refine wpQuiet_nil ?_
        intro _ hw'
        obtain ⟨⟨dq, osq⟩, hw''⟩ := hw'
        subst hw''
        have HB35 := Lib.hid (below_regrown wc dq osq)
        generalize Sort.grow (redrawn wc dq) osq = w35 at HB35 ⊢
        go_wp2
        go_meet
        exact ⟨_, rfl, (fun h => by cases h), HB35.out⟩
  case rest =>
  obtain ⟨b20, rfl, hb20, hbc⟩ := hcut
  have h35 := H34.out.next hbc
  have H35 := Lib.hid h35
  clear gy0 h35 hbc H34 HKB HY2 HI
  have Q14r : Hid (∀ W, Quad wb W p D A q AT [] r R [] (.slice (some ⟨g, 0, none⟩) N cc) (timesT D A) → Calls Try.prog 14 #[.pointer (some ⟨r, 0, none⟩)] W fun e w' => e = .returned (.string S) ∧ W = w') := Lib.hid fun W h => by rw [← hS]; exact h.swap.read2 fun _ _ hf => bytes_any hf
  have Q14p : Hid (∀ W, Quad wb W p D A q AT [] r R [] (.slice (some ⟨g, 0, none⟩) N cc) (timesT D A) → Calls Try.prog 14 #[.pointer (some ⟨p, 0, none⟩)] W fun e w' => e = .returned (.string S) ∧ W = w') := Lib.hid fun W h => by rw [← hRS]; exact h.read1 fun _ _ hf => bytes_any hf
  have Q18p : Hid (∀ W, Quad wb W p D A q AT [] r R [] (.slice (some ⟨g, 0, none⟩) N cc) (timesT D A) → Calls Try.prog 18 #[.pointer (some ⟨p, 0, none⟩)] W fun e w' => e = .returned (.string SD) ∧ W = w') := Lib.hid fun W h => by rw [← hSD]; exact h.read1 fun _ _ hf => durable_any hf
  have Q18q : Hid (∀ W, Quad wb W p D A q AT [] r R [] (.slice (some ⟨g, 0, none⟩) N cc) (timesT D A) → Calls Try.prog 18 #[.pointer (some ⟨q, 0, none⟩)] W fun e w' => e = .returned (.string SA) ∧ W = w') := Lib.hid fun W h => by rw [← hSA]; exact h.read2 fun _ _ hf => durable_any hf
  have Q20c : Hid (∀ W, Quad wb W p D A q AT [] r R [] (.slice (some ⟨g, 0, none⟩) N cc) (timesT D A) → Calls Try.prog 20 #[.pointer (some ⟨q, 0, none⟩), .agg #[.int .i64 0, .int .i64 0]] W fun e w' => e = .returned (.int .i64 0) ∧ Quad wb w' p D A q AT [] r R [] (.slice (some ⟨g, 0, none⟩) N cc) (timesT D A)) := Lib.hid fun W h => by
    have hq := h.went (f := 20) (args := #[.pointer (some ⟨q, 0, none⟩), .agg #[.int .i64 0, .int .i64 0]]) fun _ _ hf => stay_any hf (by simp) (by omega) (by omega) (by omega) (by omega)
    rw [stays_none] at hq
    exact hq
  have Q21 : Hid (cu = false → (∀ W, Calls Try.prog 21 #[.string S, .string SA] W fun e w' => e = .returned (.bool true) ∧ W = w') ∧ (∀ W, Calls Try.prog 21 #[.string SA, .string SD] W fun e w' => e = .returned (.bool true) ∧ W = w')) := Lib.hid fun h => by
    have hp := stays_pre (D := D) (HCU.out h) d c1
    rw [hAT, hR] at hp
    rw [← hS, ← hSA, ← hSD]
    exact ⟨fun W => has_true R AT W hp.1, fun W => has_true AT D W hp.2⟩
  have x1 := str_neq S
  have i39 : (N : Int) - 1 = (L : Int) := by have := HLN.out; omega
  have HI39 := Lib.hid i39
  clear i39 hAT HCU hSAz hT0z hT0 jn0 hn1 i1
  have hbb : (b19 = true) ∨ (b19 = false ∧ b20 = true) := by
    cases b19 with
    | true => exact .inl rfl
    | false => exact .inr ⟨rfl, hb20 rfl⟩
  clear hb20
  go_upto_region 36 with fail
  go_cut [280] from 250 to 279 (fun s280 wx => s280 = .bool false ∧ Below wc.heap.size wc wx)
  case first =>
    rcases hbb with rfl | ⟨rfl, rfl⟩
    all_goals
      cases cu with
      | true =>
        go_wp2_with (first
          | (go_at_call 14; first | ((with_reducible refine (Q14r.out _ H35.out).mono ?_); rintro e w36 ⟨rfl, rfl⟩) | ((with_reducible refine (Q14p.out _ H35.out).mono ?_); rintro e w36 ⟨rfl, rfl⟩)))
        go_meet
        exact ⟨rfl, Below.refl _ _⟩
      | false =>
        obtain ⟨Q21a, Q21b⟩ := Q21.out rfl
        have Q21a := Lib.hid Q21a
        have Q21b := Lib.hid Q21b
        go_wp2_with (first
          | (go_at_call 14; first | ((with_reducible refine (Q14r.out _ H35.out).mono ?_); rintro e w36 ⟨rfl, rfl⟩) | ((with_reducible refine (Q14p.out _ H35.out).mono ?_); rintro e w36 ⟨rfl, rfl⟩))
          | (go_at_call 18; (with_reducible refine (Q18p.out _ H35.out).mono ?_); rintro e w36 ⟨rfl, rfl⟩)
          | (go_at_call 21; first | ((with_reducible refine (Q21a.out _).mono ?_); rintro e w36 ⟨rfl, rfl⟩) | ((with_reducible refine (Q21b.out _).mono ?_); rintro e w36 ⟨rfl, rfl⟩)))
        go_meet
        exact ⟨rfl, Below.refl _ _⟩
  case rest =>
  obtain ⟨rfl, hbc⟩ := hcut
  have H36 := Lib.hid (H35.out.next hbc)
  clear hbc H35 Q21
  go_upto_region 39 with (go_at_call 20; (with_reducible refine (Q20c.out _ H36.out).mono ?_); rintro e w37 ⟨rfl, h37⟩; have H37 := Lib.hid h37; clear h37)
  have yL := quad_row H37.out _ (Below.refl _ _) L (by omega)
  rw [List.take_of_length_le (by omega), hRS] at yL
  have gyL := fun d os => cell_regrown yL d os
  have i39 := HI39.out
  have j39 : (L : Int) < (N : Int) := by have := HLN.out; omega
  have q14q := quiet_call (w := w37) fun W hW => same_below (Q14q.out W q r (H37.out.next hW))
  have q14p := quiet_call (w := w37) fun W hW => same_below (Q14p.out W (H37.out.next hW))
  have q18q := quiet_call (w := w37) fun W hW => same_below (Q18q.out W (H37.out.next hW))
  have x2 := str_self SA
  have x3 := str_self S
  clear yL
  refine wp_region_quiet_below (by kernel_rfl) (by kernel_rfl) ?_
  repeat (go_big_quiet_step ((first | (go_at_call 14; first | (with_reducible exact q14q _ _) | (with_reducible exact q14p _ _)) | (go_at_call 18; with_reducible exact q18q _ _))))
  refine wpQuiet_nil ?_
  intro _ hw'
  obtain ⟨⟨dq, osq⟩, hw''⟩ := hw'
  subst hw''
  have HB39 := Lib.hid (below_regrown w37 dq osq)
  generalize Sort.grow (redrawn w37 dq) osq = w39 at HB39 ⊢
  go_wp2
  go_ret
  exact ⟨rfl, HBW.out _ (Below.next H37.out.below HB39.out)⟩
end Go.Proofs.Ytloijbhilfbliaa


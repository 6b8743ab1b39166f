/-
  FileReads: the walk.
-/
import Derived.Test.YtloijbhilfbliaaFMate
import Derived.Deep.RegionHeld3
import Derived.Deep.DeepCutAuto
import Derived.Lib.QuietBelow
import Derived.BigQuiet
namespace Go.Proofs.Ytloijbhilfbliaa
open Go.RowKit Go.Shelf

theorem joined_snoc (xs : List ByteArray) (x : ByteArray) : joined (xs ++ [x]) = joined xs ++ x.data.toList := by simp [joined]
theorem reads_appT (D : List UInt8) (A : List Do) (b : List UInt8) : reads D (appT A b) = reads D A ++ b := by
  unfold appT
  split
  · next h => rw [h, List.append_nil]
  · rw [reads_snoc]; rfl
theorem reads_cutT (D R : List UInt8) (A : List Do) (k : Nat) (hR : reads D A = R) : reads D (cutT R A k) = R.take k := by
  unfold cutT
  split
  · rw [reads_snoc, hR]; rfl
  · rw [hR, List.take_of_length_le (by omega)]

def StrAt (ad : Option Addr) (w : World) (l : List ByteArray) : Prop := ∀ W, Below w.heap.size w W → ∀ i, i < l.length → ∃ b o, ad = some ⟨b, o, none⟩ ∧ W.cell? ⟨b, o + i, none⟩ = some (.string (l.getD i ⟨#[]⟩))

theorem below_drewQ {w0 w : World} (h : Below w0.heap.size w0 w) : Below w0.heap.size w0 w.drew := Below.drew h

set_option maxHeartbeats 2000000 in
set_option maxRecDepth 100000 in
theorem fileReads_walk (s : ByteArray) (l : List ByteArray) (la : Option Addr) (lc : Nat) (x0 x1 : Nat) (w : World) (hl : StrAt la w l) (b0 : x0 < 256) (b1 : x1 < 256) (hs : s.size ≤ 9223372036854775807) (hz : ∀ s ∈ l, s.size ≤ 9223372036854775807) :
    Calls Try.prog 6 #[.string s, .slice la l.length lc, .agg #[.int .u8 (x0 : Int), .int .u8 (x1 : Int)]] w fun e w' => e = .returned (.bool true) ∧ Below w.heap.size w w' := by
  have HC := Lib.hid hl
  have HZ := Lib.hid hz
  have HW13 := Lib.hid works_any
  have hX : ∃ X : ByteArray, ∃ kk : Nat, X.size = kk ∧ kk ≤ 100 ∧ (s.size ≤ 100 ∧ X = s ∨ 100 < s.size ∧ s.extract 0 100 = X) := by
    rcases Nat.lt_or_ge 100 s.size with hlt | hge
    · exact ⟨s.extract 0 100, 100, by rw [ByteArray.size_extract]; omega, by omega, .inr ⟨hlt, rfl⟩⟩
    · exact ⟨s, s.size, rfl, hge, .inl ⟨hge, rfl⟩⟩
  obtain ⟨X, kk, hXz, hk50, hX⟩ := hX
  obtain ⟨D, hD⟩ : ∃ D, X.data.toList = D := ⟨_, rfl⟩
  have Q7a : Hid (∀ W, Below w.heap.size w W → Calls Try.prog 7 #[.string X] W fun e w' => ∃ p, e = .returned (.pointer (some ⟨p, 0, none⟩)) ∧ NewF w w' p D []) := Lib.hid fun W hW => by rw [← hD]; exact newF_any X w W hW (by omega)
  have Q7b : Hid (∀ W p, NewF w W p D [] → Calls Try.prog 7 #[.string X] W fun e w' => ∃ q, e = .returned (.pointer (some ⟨q, 0, none⟩)) ∧ Mate w w' p D [] q D [] (.slice none 0 0) []) := Lib.hid fun W p h => by have := mate_new h X (by omega); rw [hD] at this; exact this
  have HXL : D.length = kk := by rw [← hD, ba_length]; exact hXz
  have HBX : Hid (∀ W, Below w.heap.size w W → Below w.heap.size w (W.alloc (.cells #[.int .u8 (x0 : Int), .int .u8 (x1 : Int)] 52))) := Lib.hid fun W hW => below_alloc' hW
  have HP : Hid (∀ W, Below (w.alloc (.cells #[.int .u8 (x0 : Int), .int .u8 (x1 : Int)] 52)).heap.size (w.alloc (.cells #[.int .u8 (x0 : Int), .int .u8 (x1 : Int)] 52)) W → W.cell? ⟨w.heap.size, 0, none⟩ = some (.int .u8 (x0 : Int)) ∧ W.cell? ⟨w.heap.size, 1, none⟩ = some (.int .u8 (x1 : Int))) := Lib.hid fun W hW => by
    have ht := (hW.block w.heap.size (by simp)).trans (heap_alloc_new w (.cells #[.int .u8 (x0 : Int), .int .u8 (x1 : Int)] 52))
    exact ⟨by rw [cell_of_row _ _ _ _ _ _ ht]; rfl, by rw [cell_of_row _ _ _ _ _ _ ht]; rfl⟩
  clear hl hz hD
  go_enter Try.func6, Try.ntmps6
  go_wp2_with (go_at_call 13; (with_reducible refine (HW13.out _).mono ?_); rintro e w1 ⟨rfl, h1⟩; obtain ⟨c0, c1⟩ := HP.out _ h1; have HB1 := Lib.hid (Below.next (below_alloc' (Below.refl _ w)) h1); clear h1)
  go_quiet (fail)
  have HB2 := Lib.hid (below_drewN' (n := nq) HB1.out)
  generalize w1.drewN nq = w2 at HB2 ⊢
  clear HB1 c0 c1 HP HBX
  go_upto_region 4 with fail
  go_cut [9, 10] (fun s9 s10 wx => ∃ p q, s9 = .pointer (some ⟨p, 0, none⟩) ∧ s10 = .pointer (some ⟨q, 0, none⟩) ∧ Mate w wx p D [] q D [] (.slice none 0 0) [])
  case first =>
    rcases hX with ⟨hle, rfl⟩ | ⟨hgt, hX⟩
    · have hXX : X.extract 0 kk = X := by rw [← hXz, ByteArray.extract_zero_size]
      have mm : (if (100 : Int) < (kk : Int) then 100 else (kk : Int)) = (kk : Int) := if_neg (by omega)
      go_region_held3 (fun _ => True) (trivial) ((go_at_call 7; (first | ((with_reducible refine (Q7a.out _ (below_drewQ HB2.out)).mono ?_); rintro e w3 ⟨p, rfl, h3⟩; have H3 := Lib.hid h3; clear h3) | ((with_reducible refine (Q7b.out _ _ H3.out).mono ?_); rintro e w4 ⟨q, rfl, h4⟩; have H4 := Lib.hid h4; clear h4))))
      all_goals
        go_wp2
        go_meet
        exact ⟨_, _, rfl, rfl, H4.out⟩
    · have mm : (if (100 : Int) < (s.size : Int) then 100 else (s.size : Int)) = 100 := if_pos (by omega)
      have m2 : (100 : Int) ≤ (s.size : Int) := by omega
      go_region_held3 (fun _ => True) (trivial) ((go_at_call 7; (first | ((with_reducible refine (Q7a.out _ (below_drewQ HB2.out)).mono ?_); rintro e w3 ⟨p, rfl, h3⟩; have H3 := Lib.hid h3; clear h3) | ((with_reducible refine (Q7b.out _ _ H3.out).mono ?_); rintro e w4 ⟨q, rfl, h4⟩; have H4 := Lib.hid h4; clear h4))))
      all_goals
        go_wp2
        go_meet
        exact ⟨_, _, rfl, rfl, H4.out⟩
  case rest =>
  obtain ⟨p, q, rfl, rfl, hm⟩ := hcut
  have H4 := Lib.hid hm
  clear hX HB2 Q7a Q7b hm
  go_wp2
  go_loopw [11, 12] (fun s11 s12 wr => ∃ (k : Nat) (xs : List ByteArray) (A : List Do), k ≤ 30 ∧ k ≤ l.length ∧ s12 = .int .i64 k ∧ xs.length = k ∧ A.length ≤ k ∧ bulk D A ≤ 100 + 20 * k ∧ (joined xs).length ≤ 20 * k ∧ reads D A = D ++ joined xs ∧ Mate w wr p D A q D [] s11 xs) (fun _ s12 _ => 30 - (intOf s12).toNat)
  case atStart => exact ⟨0, [], [], by omega, Nat.zero_le _, rfl, rfl, Nat.le_refl _, by rw [bulk_nil]; omega, Nat.le_refl _, by simp [joined, reads_nil], H4.out⟩
  case round =>
    obtain ⟨k, xs, A, hk, hkl, rfl, hxl, hA, hB, hJ, hR, hm⟩ := hrel
    by_cases hlt : k < l.length ∧ k < 30
    · obtain ⟨hlt, h30⟩ := hlt
      have e1 : decide ((k : Int) < (l.length : Int)) = true := decide_eq_true (by omega)
      have e2 : decide ((k : Int) < 30) = true := decide_eq_true (by omega)
      obtain ⟨b, o, rfl, hcell⟩ := HC.out wr hm.below k hlt
      obtain ⟨⟨ad, c, rfl⟩, hown⟩ := hm.shape
      have hts : (l.getD k ⟨#[]⟩).size ≤ 9223372036854775807 := HZ.out _ (by simp [List.getD, hlt])
      obtain ⟨t, ht⟩ : ∃ t, l.getD k ⟨#[]⟩ = t := ⟨_, rfl⟩
      rw [ht] at hcell hts
      have hY : ∃ Y : ByteArray, ∃ jj : Nat, Y.size = jj ∧ jj ≤ 20 ∧ (t.size ≤ 20 ∧ Y = t ∨ 20 < t.size ∧ t.extract 0 20 = Y) := by
        rcases Nat.lt_or_ge 20 t.size with hlt | hge
        · exact ⟨t.extract 0 20, 20, by rw [ByteArray.size_extract]; omega, by omega, .inr ⟨hlt, rfl⟩⟩
        · exact ⟨t, t.size, rfl, hge, .inl ⟨hge, rfl⟩⟩
      obtain ⟨Y, jj, hYz, hj20, hY⟩ := hY
      have HM := Lib.hid hm
      have HR := Lib.hid hR
      have HXL2 := Lib.hid hxl
      clear hm hown ht hR hxl
      have hcg := fun d os => cell_regrown hcell d os
      go_upto_region 11 with fail
      go_cut [13] (fun s13 wx => s13 = .string Y ∧ Below wr.heap.size wr wx)
      case first =>
        rcases hY with ⟨hle, rfl⟩ | ⟨hgt, hY⟩
        · have hXX : Y.extract 0 jj = Y := by rw [← hYz, ByteArray.extract_zero_size]
          have mm : (if (20 : Int) < (jj : Int) then 20 else (jj : Int)) = (jj : Int) := if_neg (by omega)
          refine wp_region_quiet_below (by kernel_rfl) (by kernel_rfl) ?_
          repeat (go_big_quiet_step (fail))
          refine wpQuiet_nil ?_
          intro _ hw'
          obtain ⟨⟨dq, osq⟩, hw''⟩ := hw'
          subst hw''
          have hb2 := below_regrown wr dq osq
          generalize Sort.grow (redrawn wr dq) osq = w2 at hb2 ⊢
          go_wp2
          go_meet
          exact ⟨rfl, hb2⟩
        · have mm : (if (20 : Int) < (t.size : Int) then 20 else (t.size : Int)) = 20 := if_pos (by omega)
          have m2 : (20 : Int) ≤ (t.size : Int) := by omega
          refine wp_region_quiet_below (by kernel_rfl) (by kernel_rfl) ?_
          repeat (go_big_quiet_step (fail))
          refine wpQuiet_nil ?_
          intro _ hw'
          obtain ⟨⟨dq, osq⟩, hw''⟩ := hw'
          subst hw''
          have hb2 := below_regrown wr dq osq
          generalize Sort.grow (redrawn wr dq) osq = w2 at hb2 ⊢
          go_wp2
          go_meet
          exact ⟨rfl, hb2⟩
      case rest =>
      obtain ⟨rfl, hbc⟩ := hcut
      have HMc := Lib.hid (HM.out.next hbc)
      have hjx : joined [Y] = Y.data.toList := by simp [joined]
      have hjl : (joined [Y]).length = jj := by rw [hjx, ba_length]; exact hYz
      have Q9 : Hid (Calls Try.prog 9 #[.pointer (some ⟨p, 0, none⟩), .slice (some ⟨wc.heap.size, 0, none⟩) 1 1] (wc.alloc (.cells #[.string Y] 9)) fun e w' => e = .returned (.int .i64 0) ∧ Mate w w' p D (appT A Y.data.toList) q D [] (.slice ad xs.length c) xs) := Lib.hid (by
        have := (HMc.out.next (below_alloc' (Below.refl _ wc))).went (f := 9) (args := #[.pointer (some ⟨p, 0, none⟩), .slice (some ⟨wc.heap.size, 0, none⟩) 1 1]) fun _ _ hf => append_any hf (strs_lit1 Y wc) (by simp) (by rw [hjl]; omega) (by omega)
        rw [hjx] at this
        exact this)
      clear HM hcell hcg hY hbc
      go_wp2_with (first
        | (go_at_call 9; (with_reducible refine Q9.out.mono ?_); rintro e w5 ⟨rfl, h5⟩; have HO5 : Hid (w5.ownsRow w.heap.size 9 1 (.slice ad xs.length c) xs.length (strs xs)) := Lib.hid h5.shape.2; have HB5 := Lib.hid h5.below; have H5 := Lib.hid h5; clear h5)
        | (at_builtin; refine wpList_append_str1 rfl _ _ rfl rfl w.heap.size (.slice ad xs.length c) xs.length (strs xs) w5.heap.size Y rfl rfl (by rw [cell_of_row _ _ _ _ _ _ (heap_alloc_new w5 _)]; rfl) (owns_next HO5.out (below_alloc' (Below.refl _ w5))) (by have := HB5.out.size; have := (below_alloc' (o := .cells #[.string Y] 9) (Below.refl w5.heap.size w5)).size; omega) (by have := HXL2.out; omega) ?_; intro v' w6 o6 g6 l6; have H6 := Lib.hid (H5.out.grow (below_alloc' (Below.refl _ w5)) o6 g6 l6); obtain ⟨ad6, c6, rfl⟩ := owns_slice9 o6; clear o6 g6 l6))
      refine ⟨⟨k + 1, xs ++ [Y], appT A Y.data.toList, by omega, by omega, by go_num, ?_, ?_, ?_, ?_, ?_, H6.out⟩, by simp [intOf]; omega⟩
      · rw [List.length_append]; simp; exact HXL2.out
      · have := appT_length A Y.data.toList; omega
      · have := appT_bulk D A Y.data.toList; rw [ba_length] at this; omega
      · rw [joined_snoc, List.length_append, ba_length]; omega
      · rw [reads_appT, HR.out, joined_snoc, List.append_assoc]
    · have hx : (k < l.length ∧ ¬ k < 30) ∨ ¬ k < l.length := by omega
      clear hlt
      clear HC HZ
      rcases hx with ⟨hx, hx2⟩ | hx
      all_goals as_aux_lemma =>
        have hm2 := hm
        obtain ⟨⟨ad, c, rfl⟩, hown⟩ := hm.shape
        have hsv := strs_of_owns hown
        obtain ⟨b, hb⟩ : ∃ b, joined xs = b := ⟨_, rfl⟩
        rw [hb] at hJ hR
        obtain ⟨R, hRR⟩ : ∃ R, D ++ b = R := ⟨_, rfl⟩
        rw [hRR] at hR
        have hRl : R.length ≤ 700 := by rw [← hRR, List.length_append]; omega
        have hBg : reads D (appT [] b) = R := by rw [reads_appT, reads_nil, hRR]
        have hAg := appT_length [] b
        have hBB := appT_bulk D [] b
        rw [bulk_nil] at hBB
        have Q9g : Hid (Calls Try.prog 9 #[.pointer (some ⟨q, 0, none⟩), .slice ad xs.length c] wr fun e w' => e = .returned (.int .i64 0) ∧ Mate w w' p D A q D (appT [] b) (.slice ad xs.length c) xs) := Lib.hid (by
          have hh := hm.swap.went (f := 9) (args := #[.pointer (some ⟨q, 0, none⟩), .slice ad xs.length c]) (r := .int .i64 0) (G := D) (C := appT [] (joined xs)) fun _ _ hf => append_any hf hsv (by omega) (by rw [bulk_nil, hb]; omega) (by simp)
          rw [hb] at hh
          exact hh.mono fun e w' h' => ⟨h'.1, h'.2.swap⟩)
        have HXE := Lib.hid hxl
        clear hm hm2 hown hsv hxl
        obtain ⟨V, hV⟩ : ∃ V, strO R = V := ⟨_, rfl⟩
        have hVz : V.size = R.length := by rw [← hV, strO_size]
        obtain ⟨B, hBe⟩ : ∃ B, appT [] b = B := ⟨_, rfl⟩
        rw [hBe] at Q9g hBg hAg hBB
        have hBn : decide ((1 : Int) < (B.length : Int)) = false := decide_eq_false (by simp at hAg; omega)
        obtain ⟨SD, hSD⟩ : ∃ SD, strO D = SD := ⟨_, rfl⟩
        have Q14f : Hid (∀ W A' E C v ys, reads D A' = R → Mate w W p D A' q E C v ys → Calls Try.prog 14 #[.pointer (some ⟨p, 0, none⟩)] W fun e w' => e = .returned (.string V) ∧ W = w') := Lib.hid fun W A' E C v ys h1 h2 => by rw [← hV, ← h1]; exact h2.read fun _ _ hf => bytes_any hf
        have Q14g : Hid (∀ W v ys, Mate w W p D A q D B v ys → Calls Try.prog 14 #[.pointer (some ⟨q, 0, none⟩)] W fun e w' => e = .returned (.string V) ∧ W = w') := Lib.hid fun W v ys h2 => by rw [← hV, ← hBg]; exact h2.swap.read fun _ _ hf => bytes_any hf
        have Q19g : Hid (∀ W v ys, Mate w W p D A q D B v ys → Calls Try.prog 19 #[.pointer (some ⟨q, 0, none⟩)] W fun e w' => e = .returned (.int .i64 (B.length : Nat)) ∧ W = w') := Lib.hid fun W v ys h2 => h2.swap.read fun _ _ hf => acts_any hf
        have Q18f : Hid (∀ W v ys, Mate w W p D A q D B v ys → Calls Try.prog 18 #[.pointer (some ⟨p, 0, none⟩)] W fun e w' => e = .returned (.string SD) ∧ W = w') := Lib.hid fun W v ys h2 => by rw [← hSD]; exact h2.read fun _ _ hf => durable_any hf
        have Q18g : Hid (∀ W v ys, Mate w W p D A q D B v ys → Calls Try.prog 18 #[.pointer (some ⟨q, 0, none⟩)] W fun e w' => e = .returned (.string SD) ∧ W = w') := Lib.hid fun W v ys h2 => by rw [← hSD]; exact h2.swap.read fun _ _ hf => durable_any hf
        have s1 := str_neq V
        have s2 := str_neq SD
        have HRE := Lib.hid hR
        clear hRR hJ hb hBe hSD hR
        go_wp2_with (first
          | (go_at_call 9; (with_reducible refine Q9g.out.mono ?_); rintro e w5 ⟨rfl, h5⟩; have H5 := Lib.hid h5; clear h5)
          | (go_at_call 14; first | ((with_reducible refine (Q14f.out _ _ _ _ _ _ HRE.out H5.out).mono ?_); rintro e w6 ⟨rfl, rfl⟩) | ((with_reducible refine (Q14g.out _ _ _ H5.out).mono ?_); rintro e w6 ⟨rfl, rfl⟩))
          | (go_at_call 19; (with_reducible refine (Q19g.out _ _ _ H5.out).mono ?_); rintro e w6 ⟨rfl, rfl⟩)
          | (go_at_call 18; first | ((with_reducible refine (Q18f.out _ _ _ H5.out).mono ?_); rintro e w6 ⟨rfl, rfl⟩) | ((with_reducible refine (Q18g.out _ _ _ H5.out).mono ?_); rintro e w6 ⟨rfl, rfl⟩)))
        clear Q9g Q14g Q19g Q18f Q18g s2 hBn
        obtain ⟨z9, hz9⟩ : ∃ z9 : Nat, (x1 : Int) % 9 = (z9 : Int) := ⟨x1 % 9, by omega⟩
        have hz9l : z9 < 9 := by omega
        go_loopw [15, 16] (fun s15 s16 wr => ∃ n : Nat, n ≤ R.length + 9 ∧ s16 = .int .i64 n ∧ s15 = .string (strO (R.take n)) ∧ Below w5.heap.size w5 wr) (fun _ s16 _ => R.length + 10 - (intOf s16).toNat)
        case atStart => exact ⟨0, by omega, rfl, by simp [strO], Below.refl _ _⟩
        case round =>
          obtain ⟨n, hn, rfl, rfl, hbx⟩ := hrel
          have HBX := Lib.hid hbx
          have H6 := Lib.hid (H5.out.next hbx)
          clear hbx
          by_cases hnl : n < R.length
          · obtain ⟨S, hS⟩ : ∃ S, strO (R.take n) = S := ⟨_, rfl⟩
            obtain ⟨T, hT⟩ : ∃ T, strO ((R.drop n).take (1 + z9)) = T := ⟨_, rfl⟩
            have hSz : S.size = n := by rw [← hS, strO_size, List.length_take]; omega
            have hTz : T.size ≤ 9 := by rw [← hT, strO_size, List.length_take]; omega
            have hov : ¬ 9223372036854775807 < n + T.size := by omega
            have he : S ++ T = strO (R.take (n + 1 + z9)) := by rw [← hS, ← hT, strO_join, ← List.take_add, Nat.add_assoc]
            have Q22 : Hid (Calls Try.prog 22 #[.pointer (some ⟨p, 0, none⟩), .int .i64 (n : Int), .int .i64 (1 + (z9 : Int))] wr fun e w' => e = .returned (.tuple #[.string T, .int .i64 0]) ∧ wr = w') := Lib.hid (by
              have hq := H6.out.read (f := 22) (args := #[.pointer (some ⟨p, 0, none⟩), .int .i64 (n : Int), .int .i64 (1 + (z9 : Int))]) fun _ _ hf => readAt_any hf (by omega) (by omega) (by omega)
              rw [HRE.out] at hq
              have g1 : readE R (n : Int) (1 + (z9 : Int)) = 0 := by unfold readE; rw [if_neg (by omega)]
              have g2 : (⟨(readT R (n : Int) (1 + (z9 : Int))).toArray⟩ : ByteArray) = T := by
                unfold readT
                rw [if_neg (by omega), ← hT, show (1 + (z9 : Int)).toNat = 1 + z9 by omega]
                rfl
              rw [g1, g2] at hq
              exact hq)
            rw [hS]
            clear hS hT
            go_wp2_with (go_at_call 22; (with_reducible refine Q22.out.mono ?_); rintro e w6 ⟨rfl, rfl⟩)
            exact ⟨⟨n + 1 + z9, by omega, by go_num, by first | rfl | (rw [he]), HBX.out⟩, by simp [intOf]; omega⟩
          · rw [show strO (R.take n) = V by rw [List.take_of_length_le (by omega), hV]]
            obtain ⟨j, hj⟩ : ∃ j : Nat, (x0 : Int) % ((R.length : Int) + 1) = (j : Int) := ⟨((x0 : Int) % ((R.length : Int) + 1)).toNat, (Int.toNat_of_nonneg (Int.emod_nonneg _ (by omega))).symm⟩
            have hjl : j ≤ R.length := by
              have := Int.emod_lt_of_pos (x0 : Int) (b := (R.length : Int) + 1) (by omega)
              omega
            obtain ⟨T, hT⟩ : ∃ T, strO (R.drop j) = T := ⟨_, rfl⟩
            obtain ⟨F, hF⟩ : ∃ F, strO (R.take j) = F := ⟨_, rfl⟩
            have hVT : V.extract j R.length = T := by rw [← hV, ← hT, ← strO_drop, strO_size]
            have hVF : V.extract 0 j = F := by rw [← hV, ← hF, strO_take]
            have Q22 : Hid (∀ W, Below w5.heap.size w5 W → Calls Try.prog 22 #[.pointer (some ⟨p, 0, none⟩), .int .i64 (j : Int), .int .i64 (R.length : Int)] W fun e w' => e = .returned (.tuple #[.string T, .int .i64 0]) ∧ W = w') := Lib.hid (fun W hW => by
              have hq := (H5.out.next hW).read (f := 22) (args := #[.pointer (some ⟨p, 0, none⟩), .int .i64 (j : Int), .int .i64 (R.length : Int)]) fun _ _ hf => readAt_any hf (by omega) (by omega) (by omega)
              rw [HRE.out] at hq
              have g1 : readE R (j : Int) (R.length : Int) = 0 := by unfold readE; rw [if_neg (by omega)]
              have g2 : (⟨(readT R (j : Int) (R.length : Int)).toArray⟩ : ByteArray) = T := by
                unfold readT
                rw [if_neg (by omega), ← hT]
                show strO ((R.drop j).take R.length) = _
                rw [List.take_of_length_le (by rw [List.length_drop]; omega)]
              rw [g1, g2] at hq
              exact hq)
            have hA2 := reads_cutT D R A j HRE.out
            have hb2 := cutT_bulk D R A j
            have hl2 := cutT_length R A j
            obtain ⟨A2, hA2e⟩ : ∃ A2, cutT R A (j : Int) = A2 := ⟨_, rfl⟩
            have Q16 : Hid (∀ W, Below w5.heap.size w5 W → Calls Try.prog 16 #[.pointer (some ⟨p, 0, none⟩), .int .i64 (j : Int)] W fun e w' => e = .returned (.int .i64 0) ∧ Mate w w' p D A2 q D B (.slice ad xs.length c) xs) := Lib.hid (fun W hW => by
              have hq := (H5.out.next hW).went (f := 16) (args := #[.pointer (some ⟨p, 0, none⟩), .int .i64 (j : Int)]) fun _ _ hf => cut_any hf (by omega) (by omega) (by omega)
              rw [HRE.out, show cutE R (j : Int) = 0 by unfold cutE; rw [if_neg (by omega)], hA2e] at hq
              exact hq)
            rw [hA2e] at hA2 hb2 hl2
            have Q14c : Hid (∀ W v ys, Mate w W p D A2 q D B v ys → Calls Try.prog 14 #[.pointer (some ⟨p, 0, none⟩)] W fun e w' => e = .returned (.string F) ∧ W = w') := Lib.hid fun W v ys h2 => by rw [← hF, ← hA2]; exact h2.read fun _ _ hf => bytes_any hf
            have hjn : joined [T] = R.drop j := by rw [← hT]; simp [joined, strO]
            have hA3 : reads D (appT A2 (R.drop j)) = R := by rw [reads_appT, hA2, List.take_append_drop]
            obtain ⟨A3, hA3e⟩ : ∃ A3, appT A2 (R.drop j) = A3 := ⟨_, rfl⟩
            rw [hA3e] at hA3
            have Q9c : Hid (∀ W v ys, Mate w W p D A2 q D B v ys → Calls Try.prog 9 #[.pointer (some ⟨p, 0, none⟩), .slice (some ⟨W.heap.size, 0, none⟩) 1 1] (W.alloc (.cells #[.string T] 9)) fun e w' => e = .returned (.int .i64 0) ∧ Mate w w' p D A3 q D B v ys) := Lib.hid (fun W v ys h2 => by
              have hq := (h2.next (below_alloc' (Below.refl _ W))).went (f := 9) (args := #[.pointer (some ⟨p, 0, none⟩), .slice (some ⟨W.heap.size, 0, none⟩) 1 1]) fun _ _ hf => append_any hf (strs_lit1 T W) (by simp) (by rw [hjn, List.length_drop]; omega) (by omega)
              rw [hjn, hA3e] at hq
              exact hq)
            have Q10f : Hid (∀ W v ys, Mate w W p D A3 q D B v ys → Calls Try.prog 10 #[.pointer (some ⟨p, 0, none⟩)] W fun e w' => e = .returned (.int .i64 0) ∧ Mate w w' p R [] q D B v ys) := Lib.hid fun W v ys h2 => by
              have hq := h2.went (f := 10) (args := #[.pointer (some ⟨p, 0, none⟩)]) fun _ _ hf => sync_any hf
              rw [hA3] at hq
              exact hq
            have Q10g : Hid (∀ W v ys, Mate w W p R [] q D B v ys → Calls Try.prog 10 #[.pointer (some ⟨q, 0, none⟩)] W fun e w' => e = .returned (.int .i64 0) ∧ Mate w w' p R [] q R [] v ys) := Lib.hid fun W v ys h2 => by
              have hq := h2.swap.went (f := 10) (args := #[.pointer (some ⟨q, 0, none⟩)]) fun _ _ hf => sync_any hf
              rw [hBg] at hq
              exact hq.mono fun e w' h' => ⟨h'.1, h'.2.swap⟩
            have Q18f : Hid (∀ W v ys, Mate w W p R [] q R [] v ys → Calls Try.prog 18 #[.pointer (some ⟨p, 0, none⟩)] W fun e w' => e = .returned (.string V) ∧ W = w') := Lib.hid fun W v ys h2 => by rw [← hV]; exact h2.read fun _ _ hf => durable_any hf
            have Q18g : Hid (∀ W v ys, Mate w W p R [] q R [] v ys → Calls Try.prog 18 #[.pointer (some ⟨q, 0, none⟩)] W fun e w' => e = .returned (.string V) ∧ W = w') := Lib.hid fun W v ys h2 => by rw [← hV]; exact h2.swap.read fun _ _ hf => durable_any hf
            have Q19 : Hid (∀ W v ys, Mate w W p R [] q R [] v ys → Calls Try.prog 19 #[.pointer (some ⟨p, 0, none⟩)] W fun e w' => e = .returned (.int .i64 0) ∧ W = w') := Lib.hid fun W v ys h2 => h2.read fun _ _ hf => acts_any hf
            have s2 := str_neq T
            have s3 := str_neq F
            have s4 := str_self V
            have HA3 := Lib.hid hA3
            have f1 : (j : Int) ≤ (R.length : Int) := by omega
            clear hT hF hjn hA3 hA3e hA2 hA2e hb2 hl2 hBg
            go_wp2_with (go_at_call 22; (with_reducible refine (Q22.out _ HBX.out).mono ?_); rintro e w6 ⟨rfl, rfl⟩)
            go_region_held3 (fun _ => True) (trivial) (first
              | ((go_at_call 16; (with_reducible refine (Q16.out _ (below_drewQ HBX.out)).mono ?_); rintro e w7 ⟨rfl, h7⟩; have H7 := Lib.hid h7; clear h7))
              | ((go_at_call 14; first | ((with_reducible refine (Q14c.out _ _ _ H7.out).mono ?_); rintro e w8 ⟨rfl, rfl⟩) | ((with_reducible refine (Q14f.out _ _ _ _ _ _ HA3.out H8.out).mono ?_); rintro e w8 ⟨rfl, rfl⟩)))
              | ((go_at_call 9; (with_reducible refine (Q9c.out _ _ _ H7.out).mono ?_); rintro e w8 ⟨rfl, h8⟩; have H8 := Lib.hid h8; clear h8)))
            go_wp2_with (first
              | (go_at_call 10; first | ((with_reducible refine (Q10f.out _ _ _ H8.out).mono ?_); rintro e w9 ⟨rfl, h9⟩; have H9 := Lib.hid h9; clear h9) | ((with_reducible refine (Q10g.out _ _ _ H9.out).mono ?_); rintro e w10 ⟨rfl, h10⟩; have H10 := Lib.hid h10; clear h10))
              | (go_at_call 18; first | ((with_reducible refine (Q18f.out _ _ _ H10.out).mono ?_); rintro e w11 ⟨rfl, rfl⟩) | ((with_reducible refine (Q18g.out _ _ _ H10.out).mono ?_); rintro e w11 ⟨rfl, rfl⟩))
              | (go_at_call 19; (with_reducible refine (Q19.out _ _ _ H10.out).mono ?_); rintro e w11 ⟨rfl, rfl⟩))
            go_ret
            exact ⟨rfl, H10.out.below⟩
end Go.Proofs.Ytloijbhilfbliaa

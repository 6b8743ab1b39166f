/-
  The law's own act: both files do it, and are alike.
-/
import Derived.Test.YtloijbhilfbliaaFDuet
import Derived.Deep.RegionHeld
namespace Go.Proofs.Ytloijbhilfbliaa
open Go.RowKit Go.Shelf

def Next (w0 : World) (p q : Nat) (D : List UInt8) (A : List Do) (e : Ending) (w' : World) : Prop :=
  e = .returned (.bool true) ∧ ∃ D' A', Duet w0 w' p D' A' q D' A' ∧ A'.length ≤ A.length + 1 ∧ bulk D' A' ≤ bulk D A + 20

theorem stays_le (D : List UInt8) (A : List Do) (d q : Int) : (stays D A d q).length ≤ bulk D A := by
  rw [stays_eq, List.length_append]
  have h1 := reads_length D (doneT A d)
  have h2 := bulk_take D A (upTo d A.length)
  unfold doneT at h1 ⊢
  unfold nextT
  cases hd : A.drop (upTo d A.length) with
  | nil => simp; omega
  | cons x r =>
    cases x with
    | cut n => simp; omega
    | app b =>
      simp only [List.head?_cons, List.length_take]
      have h3 : bulk D (A.take (upTo d A.length) ++ [.app b]) ≤ bulk D A := by
        conv => rhs; rw [← List.take_append_drop (upTo d A.length) A, hd]
        unfold bulk
        simp
      rw [bulk_app] at h3
      omega

theorem Duet.cell1 {w0 w : World} {p q : Nat} {D E : List UInt8} {A B : List Do} (h : Duet w0 w p D A q E B) : ∃ ad c, w.cell? ⟨q, 1, none⟩ = some (.slice ad B.length c) := by
  obtain ⟨_, _, _, _, h2, _⟩ := h
  obtain ⟨av, hq, ha, _⟩ := h2.it
  obtain ⟨ad, c, rfl, _⟩ := acts_cells ha
  exact ⟨ad, c, by rw [cell_of_row _ q 1 _ _ _ hq]; rfl⟩

/-- The document's file does: another block stays as it was. -/
theorem Duet.rwent_at {w0 w W : World} {p q f : Nat} {D E G : List UInt8} {A B C : List Do} {args : Array Value} {r : Value} (h : Duet w0 w p D A q E B) (hb : Below w.heap.size w W) (hlt : w.heap.size < W.heap.size)
    (hc : ∀ J, RefAt W q E B J → Calls Try.prog f args W (RefWent W q G C J r)) : Calls Try.prog f args W fun e w' => e = .returned r ∧ Duet w0 w' p D A q G C ∧ w'.heap[w.heap.size]? = W.heap[w.heap.size]? := by
  obtain ⟨M, I, J, h1, h2, h3, h4, h5⟩ := h
  refine (hc J (h2.below hb)).mono ?_
  rintro e w' ⟨rfl, J', k1, k2, k3⟩
  have hz := hb.size
  have hz2 := h5.size
  refine ⟨rfl, ⟨M, I, J', (h1.below hb).kept k3 fun g hg hj => ?_, k1, fun g hg => ?_, ?_, (Below.next h5 hb).trans (k3.to (by omega) fun g hg => h4 g (.inr (.inr hg)))⟩, k3.block _ hlt fun hj => by have := h2.mem _ hj; omega⟩
  · rcases hg with hg | hg
    · exact (h3 g hj).1 hg
    · exact (h3 g hj).2 hg
  · rcases k2 g hg with h | h
    · exact h3 g h
    · exact ⟨fun hm => by have := h1.mem g (.inl hm); omega, fun hm => by have := h1.mem g (.inr hm); omega⟩
  · rintro g (hg | hg | hg)
    · exact h4 g (.inl hg)
    · exact h4 g (.inr (.inl hg))
    · rcases k2 g hg with h | h
      · exact h4 g (.inr (.inr h))
      · omega

theorem appT_length (A : List Do) (b : List UInt8) : (appT A b).length ≤ A.length + 1 := by unfold appT; split <;> simp
theorem appT_bulk (D : List UInt8) (A : List Do) (b : List UInt8) : bulk D (appT A b) ≤ bulk D A + b.length := by unfold appT; split <;> simp [bulk_app]
theorem cutT_length (R : List UInt8) (A : List Do) (n : Int) : (cutT R A n).length ≤ A.length + 1 := by unfold cutT; split <;> simp
theorem cutT_bulk (D R : List UInt8) (A : List Do) (n : Int) : bulk D (cutT R A n) = bulk D A := by unfold cutT; split <;> simp [bulk_cut]

set_option maxHeartbeats 1000000 in
set_option maxRecDepth 100000 in
theorem does_any {w0 w : World} {p q : Nat} {D : List UInt8} {A : List Do} (h : Duet w0 w p D A q D A) (hl : A.length ≤ 900) (hb : bulk D A + 20 ≤ 100000) (x : Nat) (s : ByteArray) (n m : Int)
    (hx : x < 256) (hn1 : -32768 ≤ n) (hn2 : n ≤ 32767) (hm1 : -32768 ≤ m) (hm2 : m ≤ 32767) (hs : s.size ≤ 9223372036854775807) :
    Calls Try.prog 11 #[.agg #[.int .u8 (x : Int), .string s, .int .i16 n, .int .i16 m], .pointer (some ⟨p, 0, none⟩), .pointer (some ⟨q, 0, none⟩)] w (Next w0 p q D A) := by
  generalize hw1 : w.alloc (.cells #[.int .u8 (x : Int), .string s, .int .i16 n, .int .i16 m] 31) = w1
  have hb1 : Below w.heap.size w w1 := by rw [← hw1]; exact below_alloc' (Below.refl _ w)
  have HP : Hid (∀ W, Below w1.heap.size w1 W → W.cell? ⟨w.heap.size, 0, none⟩ = some (.int .u8 (x : Int)) ∧ W.cell? ⟨w.heap.size, 1, none⟩ = some (.string s) ∧ W.cell? ⟨w.heap.size, 2, none⟩ = some (.int .i16 n) ∧ W.cell? ⟨w.heap.size, 3, none⟩ = some (.int .i16 m)) := Lib.hid fun W hW => by
    have ht : W.heap[w.heap.size]? = some (.cells #[.int .u8 (x : Int), .string s, .int .i16 n, .int .i16 m] 31 (0, 0)) := (hW.block _ (by rw [← hw1]; simp)).trans (by rw [← hw1]; exact heap_alloc_new w _)
    refine ⟨?_, ?_, ?_, ?_⟩ <;> (rw [cell_of_row _ _ _ _ _ _ ht]; rfl)
  have k2 := (HP.out w1 (Below.refl _ w1)).2.2.1
  have g2 := fun d os => cell_regrown k2 d os
  have h1 := h.next hb1
  have q28 := quiet_call (w := w1) fun w2 hb2 => (h1.next hb2).read fun M I J _ hr => ref_bytes hr
  have hrl := reads_length D A
  have q17 := quiet_call (w := w1) fun w2 _ => (size_any n (reads D A).length w2 hn1 hn2 (by omega)).mono fun e w' h' => (⟨h'.1, h'.2 ▸ Below.refl _ _⟩ : e = .returned (.int .i64 (sizeT n (reads D A).length)) ∧ Below w2.heap.size w2 w')
  have hsz := strO_size (reads D A)
  obtain ⟨hk1, hk2⟩ := sizeT_in n (reads D A).length hn1 hn2 (by omega)
  obtain ⟨k, hk⟩ : ∃ k, sizeT n (reads D A).length = k := ⟨_, rfl⟩
  rw [hk] at q17 hk1 hk2
  obtain ⟨S, hS⟩ : ∃ S, strO (reads D A) = S := ⟨_, rfl⟩
  rw [hS] at q28 hsz
  rw [← hsz] at q17
  have H1 := Lib.hid h1
  obtain ⟨R, hR⟩ : ∃ R, reads D A = R := ⟨_, rfl⟩
  rw [hR] at hrl hsz
  have hbs : bulk D A ≤ 100000 := by omega
  have Q16 : Hid (∀ W, Duet w0 W p D A q D A → Calls Try.prog 16 #[.pointer (some ⟨p, 0, none⟩), .int .i64 k] W fun e w' => e = .returned (.int .i64 (cutE R k)) ∧ Duet w0 w' p D (cutT R A k) q D A) := Lib.hid fun W hW => by rw [← hR]; exact hW.went fun _ _ hf => cut_any hf (by omega) (by omega) (by omega)
  have Q29 : Hid (∀ W, Duet w0 W p D (cutT R A k) q D A → Calls Try.prog 29 #[.pointer (some ⟨q, 0, none⟩), .int .i64 k] W fun e w' => e = .returned (.int .i64 (cutE R k)) ∧ Duet w0 w' p D (cutT R A k) q D (cutT R A k)) := Lib.hid fun W hW => by rw [← hR] at hW ⊢; exact hW.rwent fun _ hf => ref_cut hf (by omega)
  have Q30 : Hid (∀ W, Duet w0 W p D A q D A → Calls Try.prog 30 #[.pointer (some ⟨q, 0, none⟩)] W fun e w' => e = .returned (.tuple #[]) ∧ Duet w0 w' p D A q R []) := Lib.hid fun W hW => by rw [← hR]; exact hW.rwent fun _ hf => ref_sync hf
  have Q10 : Hid (∀ W, Duet w0 W p D A q R [] → Calls Try.prog 10 #[.pointer (some ⟨p, 0, none⟩)] W fun e w' => e = .returned (.int .i64 0) ∧ Duet w0 w' p R [] q R []) := Lib.hid fun W hW => by rw [← hR] at hW ⊢; exact hW.went fun _ _ hf => sync_any hf
  have Q22 : Hid (∀ W, Duet w0 W p D A q D A → Calls Try.prog 22 #[.pointer (some ⟨p, 0, none⟩), .int .i64 k, .int .i64 m] W fun e w' => e = .returned (.tuple #[.string (strO (readT R k m)), .int .i64 (readE R k m)]) ∧ W = w') := Lib.hid fun W hW => by rw [← hR]; exact hW.read fun _ _ _ hf _ => readAt_any hf (by omega) (by omega) (by omega)
  have Q31 : Hid (∀ W, Duet w0 W p D A q D A → Calls Try.prog 31 #[.pointer (some ⟨q, 0, none⟩), .int .i64 k, .int .i64 m] W fun e w' => e = .returned (.tuple #[.string (strO (readT R k m)), .int .i64 (readE R k m)]) ∧ Duet w0 w' p D A q D A) := Lib.hid fun W hW => by rw [← hR]; exact (hW.read fun _ _ _ _ hf => ref_readAt hf).mono fun e w' h' => ⟨h'.1, hW.next h'.2⟩
  obtain ⟨hd1, hd2⟩ := sizeT_in m A.length hm1 hm2 (by omega)
  obtain ⟨d, hd⟩ : ∃ d, sizeT m A.length = d := ⟨_, rfl⟩
  have Q17 : Hid (∀ W, Calls Try.prog 17 #[.int .i16 m, .int .i64 (A.length : Nat)] W fun e w' => e = .returned (.int .i64 d) ∧ W = w') := Lib.hid fun W => by rw [← hd]; exact size_any m A.length W hm1 hm2 (by omega)
  rw [hd] at hd1 hd2
  have Q32 : Hid (∀ W, Below w1.heap.size w1 W → Calls Try.prog 32 #[.pointer (some ⟨q, 0, none⟩), .agg #[.int .i64 d, .int .i64 n]] W fun e w' => e = .returned (.tuple #[]) ∧ Duet w0 w' p D A q (stays D A d n) [] ∧ w'.cell? ⟨w.heap.size, 2, none⟩ = some (.int .i16 n)) := Lib.hid fun W hW => by
    have hz1 := hW.size
    have hz2 : w.heap.size < w1.heap.size := by rw [← hw1]; simp
    refine (h.rwent_at (Below.next hb1 hW) (by omega) fun _ hf => ref_stay hf (by omega) (by omega) (by omega) (by omega)).mono fun e w' h' => ⟨h'.1, h'.2.1, ?_⟩
    have ht : W.heap[w.heap.size]? = some (.cells #[.int .u8 (x : Int), .string s, .int .i16 n, .int .i16 m] 31 (0, 0)) := (hW.block _ hz2).trans (by rw [← hw1]; exact heap_alloc_new w _)
    rw [cell_of_row _ _ _ _ _ _ (h'.2.2.trans ht)]; rfl
  have Q20 : Hid (∀ W, Duet w0 W p D A q (stays D A d n) [] → Calls Try.prog 20 #[.pointer (some ⟨p, 0, none⟩), .agg #[.int .i64 d, .int .i64 n]] W fun e w' => e = .returned (.int .i64 0) ∧ Duet w0 w' p (stays D A d n) [] q (stays D A d n) []) := Lib.hid fun W hW => hW.went fun _ _ hf => stay_any hf (by omega) (by omega) (by omega) (by omega) (by omega)
  have HC1 : Hid (∀ W, Duet w0 W p D A q D A → ∃ ad c, W.cell? ⟨q, 1, none⟩ = some (.slice ad A.length c)) := Lib.hid fun W hW => hW.cell1
  have HSL := Lib.hid (Nat.le_trans (stays_le D A d n) (Nat.le_add_right _ 20))
  have HL := Lib.hid hl
  have HBK := Lib.hid hb
  have ea : (cutE R k == cutE R k) = true := by simp
  clear h1 h hS hsz hk hd hR hbs
  go_enter Try.func11, Try.ntmps11
  go_wp2
  refine wp_region_quiet_below (by kernel_rfl) (by kernel_rfl) ?_
  repeat (go_big_quiet_step ((first
    | (go_at_call 28; with_reducible exact q28 _ _)
    | (go_at_call 17; with_reducible exact q17 _ _))))
  refine wpQuiet_nil ?_
  intro _ hw'
  obtain ⟨⟨dq, osq⟩, hw''⟩ := hw'
  subst hw''
  have hb2 := below_regrown w1 dq osq
  generalize Sort.grow (redrawn w1 dq) osq = w2 at hb2 ⊢
  have h2 := H1.out.next hb2
  have H2 := Lib.hid h2
  have HP2 : Hid (∀ W, Below w2.heap.size w2 W → Below w1.heap.size w1 W) := Lib.hid fun W hW => Below.next hb2 hW
  obtain ⟨c0, c1, c2, c3⟩ := HP.out w2 hb2
  clear g2 k2 q28 q17 h2 H1 hb2 hw1 hb1
  have hy : ((x : Int) % 10 == 4) = true ∨ ((x : Int) % 10 == 4) = false ∧ ((x : Int) % 10 == 5) = true ∨ ((x : Int) % 10 == 4) = false ∧ ((x : Int) % 10 == 5) = false ∧ ((x : Int) % 10 == 6) = true ∨
      ((x : Int) % 10 == 4) = false ∧ ((x : Int) % 10 == 5) = false ∧ ((x : Int) % 10 == 6) = false ∧ ((x : Int) % 10 == 7) = true ∨ ((x : Int) % 10 == 4) = false ∧ ((x : Int) % 10 == 5) = false ∧ ((x : Int) % 10 == 6) = false ∧ ((x : Int) % 10 == 7) = false ∧ ((x : Int) % 10 == 9) = true ∨
      ((x : Int) % 10 == 4) = false ∧ ((x : Int) % 10 == 5) = false ∧ ((x : Int) % 10 == 6) = false ∧ ((x : Int) % 10 == 7) = false ∧ ((x : Int) % 10 == 9) = false := by
    cases h4 : ((x : Int) % 10 == 4) <;> cases h5 : ((x : Int) % 10 == 5) <;> cases h6 : ((x : Int) % 10 == 6) <;> cases h7 : ((x : Int) % 10 == 7) <;> cases h9 : ((x : Int) % 10 == 9) <;> simp
  rcases hy with hy | ⟨hy1, hy⟩ | ⟨hy1, hy2, hy⟩ | ⟨hy1, hy2, hy3, hy⟩ | ⟨hy1, hy2, hy3, hy4, hy⟩ | ⟨hy1, hy2, hy3, hy4, hy⟩
  · go_wp2_with (first
      | (go_at_call 16; (with_reducible refine (Q16.out _ H2.out).mono ?_); rintro e w3 ⟨rfl, h3⟩; have H3 := Lib.hid h3; clear h3)
      | (go_at_call 29; (with_reducible refine (Q29.out _ H3.out).mono ?_); rintro e w4 ⟨rfl, h4⟩; have H4 := Lib.hid h4; clear h4))
    go_ret
    exact ⟨rfl, D, _, H4.out, cutT_length _ _ _, by rw [cutT_bulk]; omega⟩
  · go_wp2_with (first
      | (go_at_call 16; (with_reducible refine (Q16.out _ H2.out).mono ?_); rintro e w3 ⟨rfl, h3⟩; have H3 := Lib.hid h3; clear h3)
      | (go_at_call 29; (with_reducible refine (Q29.out _ H3.out).mono ?_); rintro e w4 ⟨rfl, h4⟩; have H4 := Lib.hid h4; clear h4))
    go_ret
    exact ⟨rfl, D, _, H4.out, cutT_length _ _ _, by rw [cutT_bulk]; omega⟩
  · go_wp2_with (first
      | (go_at_call 30; (with_reducible refine (Q30.out _ H2.out).mono ?_); rintro e w3 ⟨rfl, h3⟩; have H3 := Lib.hid h3; clear h3)
      | (go_at_call 10; (with_reducible refine (Q10.out _ H3.out).mono ?_); rintro e w4 ⟨rfl, h4⟩; have H4 := Lib.hid h4; clear h4))
    go_ret
    exact ⟨rfl, R, _, H4.out, by simp, by rw [bulk_nil]; omega⟩
  · obtain ⟨T, hT⟩ : ∃ T, strO (readT R k m) = T := ⟨_, rfl⟩
    obtain ⟨t, ht⟩ : ∃ t, readE R k m = t := ⟨_, rfl⟩
    rw [hT, ht] at Q22 Q31
    have s1 := str_self T
    have s2 : (t == t) = true := by simp
    go_wp2_with (first
      | (go_at_call 22; (with_reducible refine (Q22.out _ H2.out).mono ?_); rintro e w3 ⟨rfl, rfl⟩)
      | (go_at_call 31; (with_reducible refine (Q31.out _ H2.out).mono ?_); rintro e w4 ⟨rfl, h4⟩; have H4 := Lib.hid h4; clear h4))
    go_ret
    exact ⟨rfl, D, _, H4.out, by omega, by omega⟩
  · obtain ⟨ad, c, cq⟩ := HC1.out _ H2.out
    have g3 := fun d os => cell_regrown c3 d os
    have gq := fun d os => cell_regrown cq d os
    have q17 := quiet_call (w := w2) fun W _ => (Q17.out W).mono fun e w' h' => (⟨h'.1, h'.2 ▸ Below.refl _ _⟩ : e = .returned (.int .i64 d) ∧ Below W.heap.size W w')
    go_wp2
    refine wp_region_quiet_below (by kernel_rfl) (by kernel_rfl) ?_
    repeat (go_big_quiet_step ((go_at_call 17; with_reducible exact q17 _ _)))
    refine wpQuiet_nil ?_
    intro _ hw'
    obtain ⟨⟨dq, osq⟩, hw''⟩ := hw'
    subst hw''
    have hb3 := below_regrown w2 dq osq
    generalize Sort.grow (redrawn w2 dq) osq = w3 at hb3 ⊢
    obtain ⟨e0, e1, e2, e3⟩ := HP.out w3 (HP2.out _ hb3)
    have Q32 := Lib.hid (Q32.out w3 (HP2.out _ hb3))
    clear g3 gq q17 hb3 c0 c1 c2 c3 cq
    go_wp2_with (first
      | (go_at_call 32; (with_reducible refine Q32.out.mono ?_); rintro e w4 ⟨rfl, h4, d2⟩; have H4 := Lib.hid h4; clear h4)
      | (go_at_call 20; (with_reducible refine (Q20.out _ H4.out).mono ?_); rintro e w5 ⟨rfl, h5⟩; have H5 := Lib.hid h5; clear h5))
    go_ret
    exact ⟨rfl, _, _, H5.out, by simp, by rw [bulk_nil]; exact HSL.out⟩
  · have hX : ∃ X : ByteArray, ∃ kk : Nat, X.size = kk ∧ kk ≤ 20 ∧ (s.size ≤ 20 ∧ X = s ∨ 20 < s.size ∧ s.extract 0 20 = X) := by
      rcases Nat.lt_or_ge 20 s.size with hlt | hge
      · exact ⟨s.extract 0 20, 20, by rw [ByteArray.size_extract]; omega, by omega, .inr ⟨hlt, rfl⟩⟩
      · exact ⟨s, s.size, rfl, hge, .inl ⟨hge, rfl⟩⟩
    obtain ⟨X, kk, hXz, hk20, hX⟩ := hX
    obtain ⟨j, hj⟩ : ∃ j, kk / 2 = j := ⟨_, rfl⟩
    have i1 : (kk : Int) / 2 = (j : Int) := by omega
    have m3 : (j : Int) ≤ (kk : Int) := by omega
    obtain ⟨Y, hY⟩ : ∃ Y, X.extract 0 j = Y := ⟨_, rfl⟩
    obtain ⟨Z, hZ⟩ : ∃ Z, X.extract j kk = Z := ⟨_, rfl⟩
    obtain ⟨b, hbe⟩ : ∃ b, joined [Y, Z] = b := ⟨_, rfl⟩
    have hbz : b.length ≤ 20 := by
      rw [← hbe]
      simp only [joined, List.flatMap_cons, List.flatMap_nil, List.append_nil, List.length_append, ba_length]
      rw [← hY, ← hZ, ByteArray.size_extract, ByteArray.size_extract]
      omega
    have Q33 : Hid (∀ W : World, Duet w0 W p D A q D A → Calls Try.prog 33 #[.pointer (some ⟨q, 0, none⟩), .slice (some ⟨W.heap.size, 0, none⟩) 2 2] (W.alloc (.cells #[.string Y, .string Z] 9)).drew fun e w' => e = .returned (.tuple #[]) ∧ Duet w0 w' p D A q D (appT A b) ∧ Strs w' (.slice (some ⟨W.heap.size, 0, none⟩) 2 2) [Y, Z]) := Lib.hid fun W hW => by
      have hs2 : Strs (W.alloc (.cells #[.string Y, .string Z] 9)).drew (.slice (some ⟨W.heap.size, 0, none⟩) 2 2) [Y, Z] := strs_lit2 Y Z W
      refine (hW.rwent_at (Below.drew (below_alloc' (Below.refl _ W))) (by show _ < (W.alloc _).heap.size; simp) fun _ hf => ref_append hf hs2 (by simp) (by rw [hbe]; have := HBK.out; omega) (by have := HL.out; omega)).mono fun e w' h' => ⟨h'.1, by rw [← hbe]; exact h'.2.1, ?_⟩
      exact ⟨_, 2, rfl, fun i hi => ⟨_, 0, rfl, by
        have : i = 0 ∨ i = 1 := by simp only [List.length_cons, List.length_nil] at hi; omega
        rcases this with rfl | rfl <;> (rw [cell_of_row _ _ _ _ _ _ (h'.2.2.trans (heap_alloc_new W _))]; rfl)⟩⟩
    have Q9 : Hid (∀ (W : World) v, Duet w0 W p D A q D (appT A b) → Strs W v [Y, Z] → Calls Try.prog 9 #[.pointer (some ⟨p, 0, none⟩), v] W fun e w' => e = .returned (.int .i64 0) ∧ Duet w0 w' p D (appT A b) q D (appT A b)) := Lib.hid fun W v hW hs => by
      have := hW.went fun _ _ hf => append_any hf hs (by simp) (by rw [hbe]; have := HBK.out; omega) (by have := HL.out; omega)
      rw [hbe] at this
      exact this
    clear hbe hj
    rcases hX with ⟨hle, rfl⟩ | ⟨hgt, hX⟩
    · have hXX : X.extract 0 kk = X := by rw [← hXz, ByteArray.extract_zero_size]
      go_wp2
      go_region
      go_wp2_with (first
        | (go_at_call 33; (with_reducible refine (Q33.out _ H2.out).mono ?_); rintro e w4 ⟨rfl, h4, hs4⟩; have H4 := Lib.hid h4; have S4 := Lib.hid hs4; clear h4 hs4)
        | (go_at_call 9; (with_reducible refine (Q9.out _ _ H4.out S4.out).mono ?_); rintro e w5 ⟨rfl, h5⟩; have H5 := Lib.hid h5; clear h5))
      go_ret
      have hab := appT_bulk D A b
      exact ⟨rfl, D, _, H5.out, appT_length _ _, by omega⟩
    · go_wp2
      go_region
      go_wp2_with (first
        | (go_at_call 33; (with_reducible refine (Q33.out _ H2.out).mono ?_); rintro e w4 ⟨rfl, h4, hs4⟩; have H4 := Lib.hid h4; have S4 := Lib.hid hs4; clear h4 hs4)
        | (go_at_call 9; (with_reducible refine (Q9.out _ _ H4.out S4.out).mono ?_); rintro e w5 ⟨rfl, h5⟩; have H5 := Lib.hid h5; clear h5))
      go_ret
      have hab := appT_bulk D A b
      exact ⟨rfl, D, _, H5.out, appT_length _ _, by omega⟩
end Go.Proofs.Ytloijbhilfbliaa

/-
  FileTells: the walk.
-/
import Derived.Test.YtloijbhilfbliaaFLaw
namespace Go.Proofs.Ytloijbhilfbliaa
open Go.RowKit Go.Shelf

/-- A file, a copy that goes on in its place, the document's file. -/
def Three (w0 w : World) (p : Nat) (G : List UInt8) (C : List Do) (p' : Nat) (D : List UInt8) (A : List Do) (q : Nat) (E : List UInt8) (B : List Do) : Prop :=
  ∃ M N I I' J : Nat → Prop, FileAt w p G C M I' ∧ FileAt w p' D A N I ∧ RefAt w q E B J ∧ (∀ g, J g → ¬ M g ∧ ¬ I g ∧ ¬ N g) ∧ (∀ g, N g ∨ I g → ¬ M g) ∧ (∀ g, M g ∨ N g ∨ I g ∨ I' g ∨ J g → w0.heap.size ≤ g) ∧ Below w0.heap.size w0 w

theorem Duet.copy' {w0 w : World} {p q : Nat} {D E : List UInt8} {A B : List Do} (h : Duet w0 w p D A q E B) (hl : A.length ≤ 1000) :
    Calls Try.prog 8 #[.pointer (some ⟨p, 0, none⟩)] w fun e w' => ∃ p', e = .returned (.pointer (some ⟨p', 0, none⟩)) ∧ Three w0 w' p D A p' D A q E B := by
  refine (h.copy hl).mono ?_
  rintro e w' ⟨p', rfl, M, N, I, J, k1, k2, k3, k4, k5, k6, k7⟩
  refine ⟨p', rfl, M, N, I, I, J, k1, k2, k3, k4, fun g hg => ?_, fun g hg => k6 g (by rcases hg with h | h | h | h | h <;> simp [h]), k7⟩
  rcases hg with hg | hg
  · exact k5 g hg
  · exact k1.apart g hg

theorem Three.next {w0 w w1 : World} {p p' q : Nat} {G D E : List UInt8} {C A B : List Do} (h : Three w0 w p G C p' D A q E B) (hb : Below w.heap.size w w1) : Three w0 w1 p G C p' D A q E B := by
  obtain ⟨M, N, I, I', J, k1, k2, k3, k4, k5, k6, k7⟩ := h
  exact ⟨M, N, I, I', J, k1.below hb, k2.below hb, k3.below hb, k4, k5, k6, Below.next k7 hb⟩
theorem Three.duet {w0 w : World} {p p' q : Nat} {G D E : List UInt8} {C A B : List Do} (h : Three w0 w p G C p' D A q E B) : Duet w0 w p' D A q E B := by
  obtain ⟨M, N, I, I', J, k1, k2, k3, k4, k5, k6, k7⟩ := h
  exact ⟨N, I, J, k2, k3, fun g hg => ⟨(k4 g hg).2.2, (k4 g hg).2.1⟩, fun g hg => k6 g (by rcases hg with h | h | h <;> simp [h]), k7⟩

/-- What is done to the old one changes nothing of the copy. -/
theorem Three.went {w0 w : World} {p p' q f : Nat} {G D E G' : List UInt8} {C A B C' : List Do} {args : Array Value} {r : Value} (h : Three w0 w p G C p' D A q E B)
    (hc : ∀ M I, FileAt w p G C M I → Calls Try.prog f args w (Went w p G' C' M I r)) : Calls Try.prog f args w fun e w' => e = .returned r ∧ Three w0 w' p G' C' p' D A q E B := by
  obtain ⟨M, N, I, I', J, k1, k2, k3, k4, k5, k6, k7⟩ := h
  refine (hc M I' k1).mono ?_
  rintro e w' ⟨rfl, M1, I1, m1, m2, m3, m4⟩
  have hz := k7.size
  have nM1 : ∀ g, g < w.heap.size → ¬ M g → ¬ M1 g := fun g hl hn h1 => by
    rcases m2 g h1 with h | h
    · exact hn h
    · omega
  refine ⟨rfl, M1, N, I, I1, J, m1, k2.kept m4 k5, k3.kept m4 fun g hg => (k4 g hg).1, fun g hg => ⟨nM1 g (k3.mem g hg) (k4 g hg).1, (k4 g hg).2⟩, fun g hg => nM1 g (k2.mem g hg) (k5 g hg), ?_, k7.trans (m4.to hz fun g hg => k6 g (.inl hg))⟩
  rintro g (hg | hg | hg | hg | hg)
  · rcases m2 g hg with h | h
    · exact k6 g (.inl h)
    · omega
  · exact k6 g (.inr (.inl hg))
  · exact k6 g (.inr (.inr (.inl hg)))
  · rcases m3 g hg with h | h
    · exact k6 g (.inr (.inr (.inr (.inl h))))
    · omega
  · exact k6 g (.inr (.inr (.inr (.inr hg))))

/-- Both files, new. -/
theorem duet_new (s : ByteArray) (w0 w : World) (hb : Below w0.heap.size w0 w) (hs : s.size ≤ 100000) :
    Calls Try.prog 7 #[.string s] w fun e w' => ∃ p, e = .returned (.pointer (some ⟨p, 0, none⟩)) ∧ Duet w0 (w'.alloc (.cells #[.string s, .slice none 0 0] 28)) p s.data.toList [] w'.heap.size s.data.toList [] := by
  refine (new_any s w hs).mono ?_
  rintro e w' ⟨p, M, rfl, h1, h2, h3⟩
  have hz := hb.size
  have hz3 := h3.size
  have hr := RefAt_new w' s.data.toList (by rw [ba_length]; omega)
  rw [strO_of] at hr
  refine ⟨p, rfl, M, _, _, h1.below (below_alloc' (Below.refl _ w')), hr, fun g hg => ⟨fun hm => ?_, fun hf => hf⟩, ?_, below_alloc' (Below.next hb h3)⟩
  · subst hg
    have := h1.mem _ (.inl hm); omega
  · rintro g (hg | hg | rfl)
    · have := h2 g hg; omega
    · exact hg.elim
    · omega

set_option maxHeartbeats 2000000 in
set_option maxRecDepth 100000 in
theorem fileTells_walk (s : ByteArray) (l : List Deed) (v : Value) (w : World) (hs : s.size ≤ 9223372036854775807) (hl : Deeds w v l) (hok : ∀ d ∈ l, d.ok) :
    Calls Try.prog 3 #[.string s, v] w fun e w' => e = .returned (.bool true) ∧ Below w.heap.size w w' := by
  obtain ⟨ad, c, rfl, hc⟩ := hl
  have HC : Hid (∀ W, Below w.heap.size w W → ∀ i, i < l.length → (l.getD i default).ok ∧ ∃ b o, ad = some ⟨b, o, none⟩ ∧ DeedAt W b (o + i * 4) (l.getD i default)) := Lib.hid fun W hW i hi => by
    obtain ⟨b, o, ha, hlt, hd⟩ := hc i hi
    exact ⟨hok _ (by simp [List.getD, hi]), b, o, ha, hd.below hW hlt⟩
  have HW13 := Lib.hid works_any
  have hX : ∃ X : ByteArray, ∃ kk : Nat, X.size = kk ∧ kk ≤ 50 ∧ (s.size ≤ 50 ∧ X = s ∨ 50 < s.size ∧ s.extract 0 50 = X) := by
    rcases Nat.lt_or_ge 50 s.size with hlt | hge
    · exact ⟨s.extract 0 50, 50, by rw [ByteArray.size_extract]; omega, by omega, .inr ⟨hlt, rfl⟩⟩
    · exact ⟨s, s.size, rfl, hge, .inl ⟨hge, rfl⟩⟩
  obtain ⟨X, kk, hXz, hk50, hX⟩ := hX
  have Q7 := Lib.hid (duet_new X w w (Below.refl _ w) (by omega))
  have HXL : X.data.toList.length = kk := by rw [ba_length]; exact hXz
  clear hc hok
  go_enter Try.func3, Try.ntmps3
  have hsplit : ∀ (P : Prop), (s.size ≤ 50 ∧ X = s → P) → (50 < s.size ∧ s.extract 0 50 = X → P) → P := fun P h1 h2 => hX.elim h1 h2
  clear hX
  refine hsplit _ ?_ ?_
  · rintro ⟨hle, rfl⟩
    have hXX : X.extract 0 kk = X := by rw [← hXz, ByteArray.extract_zero_size]
    clear hsplit
    go_wp2_with (go_at_call 7; (with_reducible refine Q7.out.mono ?_); rintro e w1 ⟨p0, rfl, h1⟩; have H1 := Lib.hid h1; clear h1)
    obtain ⟨q, hq⟩ : ∃ q, w1.heap.size = q := ⟨_, rfl⟩
    have H2 : Hid (Duet w (w1.alloc (.cells #[.string X, .slice none 0 0] 28)) p0 X.data.toList [] q X.data.toList []) := Lib.hid (by rw [← hq]; exact H1.out)
    rw [hq]
    generalize w1.alloc (.cells #[.string X, .slice none 0 0] 28) = w2 at H2 ⊢
    clear H1 hq
    go_loopw [5, 7] (fun s5 s7 wr => ∃ (k p : Nat) (D : List UInt8) (A : List Do), k ≤ 40 ∧ k ≤ l.length ∧ s7 = .int .i64 k ∧ s5 = .pointer (some ⟨p, 0, none⟩) ∧ A.length ≤ k ∧ bulk D A ≤ 50 + 20 * k ∧ Duet w wr p D A q D A) (fun _ s7 _ => 40 - (intOf s7).toNat)
    case atStart => exact ⟨0, p0, X.data.toList, [], by omega, Nat.zero_le _, rfl, rfl, Nat.le_refl _, by rw [bulk_nil, HXL]; omega, H2.out⟩
    case round =>
      obtain ⟨k, p, D, A, hk, hkl, rfl, rfl, hA, hB, hd⟩ := hrel
      by_cases hlt : k < l.length
      · by_cases h40 : k < 40
        · obtain ⟨⟨ok0, ok1, ok2, ok3, ok4, ok5⟩, b, o, rfl, c0, c1, c2, c3⟩ := HC.out _ hd.below k hlt
          obtain ⟨⟨x, t, n, m⟩, hx⟩ : ∃ d, l.getD k default = d := ⟨_, rfl⟩
          rw [hx] at c0 c1 c2 c3 ok0 ok1 ok2 ok3 ok4 ok5
          simp only at c0 c1 c2 c3 ok0 ok1 ok2 ok3 ok4 ok5
          have HD := Lib.hid hd
          have HAB := Lib.hid (show A.length ≤ k ∧ bulk D A ≤ 50 + 20 * k from ⟨hA, hB⟩)
          have e1 : decide ((k : Int) < (l.length : Int)) = true := decide_eq_true (by omega)
          have e2 : decide ((k : Int) < 40) = true := decide_eq_true (by omega)
          clear hx hd
          cases h8 : ((x : Int) % 10 == 8) with
          | true =>
            have Q8 := Lib.hid (HD.out.copy' (by omega))
            have Q9 : Hid (∀ (W : World) p', Three w W p D A p' D A q D A → Calls Try.prog 9 #[.pointer (some ⟨p, 0, none⟩), .slice (some ⟨W.heap.size, 0, none⟩) 1 1] (W.alloc (.cells #[.string ⟨#[108, 101, 102, 116, 32, 98, 101, 104, 105, 110, 100]⟩] 9)) fun e w' => e = .returned (.int .i64 0) ∧ Three w w' p D (appT A [108, 101, 102, 116, 32, 98, 101, 104, 105, 110, 100]) p' D A q D A) := Lib.hid fun W p' hW =>
              (hW.next (below_alloc' (Below.refl _ W))).went fun _ _ hf => append_any hf (strs_lit1 _ W) (by simp) (by have : (joined [(⟨#[108, 101, 102, 116, 32, 98, 101, 104, 105, 110, 100]⟩ : ByteArray)]).length = 11 := rfl; rw [this]; omega) (by omega)
            have Q10 : Hid (∀ (W : World) p' C, Three w W p D C p' D A q D A → Calls Try.prog 10 #[.pointer (some ⟨p, 0, none⟩)] W fun e w' => e = .returned (.int .i64 0) ∧ Duet w w' p' D A q D A) := Lib.hid fun W p' C hW => (hW.went fun _ _ hf => sync_any hf).mono fun e w' h' => ⟨h'.1, h'.2.duet⟩
            have Q12 : Hid (∀ (W : World) p', Duet w W p' D A q D A → Calls Try.prog 12 #[.pointer (some ⟨p', 0, none⟩), .pointer (some ⟨q, 0, none⟩)] W fun e w' => e = .returned (.bool true) ∧ Duet w w' p' D A q D A) := Lib.hid fun W p' hW => hW.alike
            clear hA hB
            go_wp2_with (first
              | (go_at_call 8; (with_reducible refine Q8.out.mono ?_); rintro e w3 ⟨p', rfl, h3⟩; have H3 := Lib.hid h3; clear h3)
              | (go_at_call 9; (with_reducible refine (Q9.out _ _ H3.out).mono ?_); rintro e w4 ⟨rfl, h4⟩; have H4 := Lib.hid h4; clear h4)
              | (go_at_call 10; (with_reducible refine (Q10.out _ _ _ H4.out).mono ?_); rintro e w5 ⟨rfl, h5⟩; have H5 := Lib.hid h5; clear h5)
              | (go_at_call 12; (with_reducible refine (Q12.out _ _ H5.out).mono ?_); rintro e w6 ⟨rfl, h6⟩; have H6 := Lib.hid h6; clear h6))
            exact ⟨⟨k + 1, p', D, A, by omega, by omega, by go_num, rfl, by have := HAB.out; omega, by have := HAB.out; omega, H6.out⟩, by simp [intOf]; omega⟩
          | false =>
            have Q11 := Lib.hid (does_any HD.out (by omega) (by omega) x t n m ok0 ok2 ok3 ok4 ok5 ok1)
            clear hA hB
            go_wp2_with (first
              | (go_at_call 11; (with_reducible refine Q11.out.mono ?_); rintro e w3 ⟨rfl, D', A', h3, z1, z2⟩; have H3 := Lib.hid h3; have Q12 := Lib.hid h3.alike; clear h3)
              | (go_at_call 12; (with_reducible refine Q12.out.mono ?_); rintro e w4 ⟨rfl, h4⟩; have H4 := Lib.hid h4; clear h4))
            exact ⟨⟨k + 1, p, D', A', by omega, by omega, by go_num, rfl, by have := HAB.out; omega, by have := HAB.out; omega, H4.out⟩, by simp [intOf]; omega⟩
        · have HB := Lib.hid hd.below
          clear hd hA hB
          go_wp2_with (go_at_call 13; (with_reducible refine (HW13.out _).mono ?_); rintro e w3 ⟨rfl, hb3⟩; have HB3 := Lib.hid (Below.next HB.out hb3); clear hb3)
          go_ret
          exact ⟨rfl, HB3.out⟩
      · have HB := Lib.hid hd.below
        clear hd hA hB
        go_wp2_with (go_at_call 13; (with_reducible refine (HW13.out _).mono ?_); rintro e w3 ⟨rfl, hb3⟩; have HB3 := Lib.hid (Below.next HB.out hb3); clear hb3)
        go_ret
        exact ⟨rfl, HB3.out⟩
  · rintro ⟨hgt, hX⟩
    clear hsplit
    go_wp2_with (go_at_call 7; (with_reducible refine Q7.out.mono ?_); rintro e w1 ⟨p0, rfl, h1⟩; have H1 := Lib.hid h1; clear h1)
    obtain ⟨q, hq⟩ : ∃ q, w1.heap.size = q := ⟨_, rfl⟩
    have H2 : Hid (Duet w (w1.alloc (.cells #[.string X, .slice none 0 0] 28)) p0 X.data.toList [] q X.data.toList []) := Lib.hid (by rw [← hq]; exact H1.out)
    rw [hq]
    generalize w1.alloc (.cells #[.string X, .slice none 0 0] 28) = w2 at H2 ⊢
    clear H1 hq
    go_loopw [5, 7] (fun s5 s7 wr => ∃ (k p : Nat) (D : List UInt8) (A : List Do), k ≤ 40 ∧ k ≤ l.length ∧ s7 = .int .i64 k ∧ s5 = .pointer (some ⟨p, 0, none⟩) ∧ A.length ≤ k ∧ bulk D A ≤ 50 + 20 * k ∧ Duet w wr p D A q D A) (fun _ s7 _ => 40 - (intOf s7).toNat)
    case atStart => exact ⟨0, p0, X.data.toList, [], by omega, Nat.zero_le _, rfl, rfl, Nat.le_refl _, by rw [bulk_nil, HXL]; omega, H2.out⟩
    case round =>
      obtain ⟨k, p, D, A, hk, hkl, rfl, rfl, hA, hB, hd⟩ := hrel
      by_cases hlt : k < l.length
      · by_cases h40 : k < 40
        · obtain ⟨⟨ok0, ok1, ok2, ok3, ok4, ok5⟩, b, o, rfl, c0, c1, c2, c3⟩ := HC.out _ hd.below k hlt
          obtain ⟨⟨x, t, n, m⟩, hx⟩ : ∃ d, l.getD k default = d := ⟨_, rfl⟩
          rw [hx] at c0 c1 c2 c3 ok0 ok1 ok2 ok3 ok4 ok5
          simp only at c0 c1 c2 c3 ok0 ok1 ok2 ok3 ok4 ok5
          have HD := Lib.hid hd
          have HAB := Lib.hid (show A.length ≤ k ∧ bulk D A ≤ 50 + 20 * k from ⟨hA, hB⟩)
          have e1 : decide ((k : Int) < (l.length : Int)) = true := decide_eq_true (by omega)
          have e2 : decide ((k : Int) < 40) = true := decide_eq_true (by omega)
          clear hx hd
          cases h8 : ((x : Int) % 10 == 8) with
          | true =>
            have Q8 := Lib.hid (HD.out.copy' (by omega))
            have Q9 : Hid (∀ (W : World) p', Three w W p D A p' D A q D A → Calls Try.prog 9 #[.pointer (some ⟨p, 0, none⟩), .slice (some ⟨W.heap.size, 0, none⟩) 1 1] (W.alloc (.cells #[.string ⟨#[108, 101, 102, 116, 32, 98, 101, 104, 105, 110, 100]⟩] 9)) fun e w' => e = .returned (.int .i64 0) ∧ Three w w' p D (appT A [108, 101, 102, 116, 32, 98, 101, 104, 105, 110, 100]) p' D A q D A) := Lib.hid fun W p' hW =>
              (hW.next (below_alloc' (Below.refl _ W))).went fun _ _ hf => append_any hf (strs_lit1 _ W) (by simp) (by have : (joined [(⟨#[108, 101, 102, 116, 32, 98, 101, 104, 105, 110, 100]⟩ : ByteArray)]).length = 11 := rfl; rw [this]; omega) (by omega)
            have Q10 : Hid (∀ (W : World) p' C, Three w W p D C p' D A q D A → Calls Try.prog 10 #[.pointer (some ⟨p, 0, none⟩)] W fun e w' => e = .returned (.int .i64 0) ∧ Duet w w' p' D A q D A) := Lib.hid fun W p' C hW => (hW.went fun _ _ hf => sync_any hf).mono fun e w' h' => ⟨h'.1, h'.2.duet⟩
            have Q12 : Hid (∀ (W : World) p', Duet w W p' D A q D A → Calls Try.prog 12 #[.pointer (some ⟨p', 0, none⟩), .pointer (some ⟨q, 0, none⟩)] W fun e w' => e = .returned (.bool true) ∧ Duet w w' p' D A q D A) := Lib.hid fun W p' hW => hW.alike
            clear hA hB
            go_wp2_with (first
              | (go_at_call 8; (with_reducible refine Q8.out.mono ?_); rintro e w3 ⟨p', rfl, h3⟩; have H3 := Lib.hid h3; clear h3)
              | (go_at_call 9; (with_reducible refine (Q9.out _ _ H3.out).mono ?_); rintro e w4 ⟨rfl, h4⟩; have H4 := Lib.hid h4; clear h4)
              | (go_at_call 10; (with_reducible refine (Q10.out _ _ _ H4.out).mono ?_); rintro e w5 ⟨rfl, h5⟩; have H5 := Lib.hid h5; clear h5)
              | (go_at_call 12; (with_reducible refine (Q12.out _ _ H5.out).mono ?_); rintro e w6 ⟨rfl, h6⟩; have H6 := Lib.hid h6; clear h6))
            exact ⟨⟨k + 1, p', D, A, by omega, by omega, by go_num, rfl, by have := HAB.out; omega, by have := HAB.out; omega, H6.out⟩, by simp [intOf]; omega⟩
          | false =>
            have Q11 := Lib.hid (does_any HD.out (by omega) (by omega) x t n m ok0 ok2 ok3 ok4 ok5 ok1)
            clear hA hB
            go_wp2_with (first
              | (go_at_call 11; (with_reducible refine Q11.out.mono ?_); rintro e w3 ⟨rfl, D', A', h3, z1, z2⟩; have H3 := Lib.hid h3; have Q12 := Lib.hid h3.alike; clear h3)
              | (go_at_call 12; (with_reducible refine Q12.out.mono ?_); rintro e w4 ⟨rfl, h4⟩; have H4 := Lib.hid h4; clear h4))
            exact ⟨⟨k + 1, p, D', A', by omega, by omega, by go_num, rfl, by have := HAB.out; omega, by have := HAB.out; omega, H4.out⟩, by simp [intOf]; omega⟩
        · have HB := Lib.hid hd.below
          clear hd hA hB
          go_wp2_with (go_at_call 13; (with_reducible refine (HW13.out _).mono ?_); rintro e w3 ⟨rfl, hb3⟩; have HB3 := Lib.hid (Below.next HB.out hb3); clear hb3)
          go_ret
          exact ⟨rfl, HB3.out⟩
      · have HB := Lib.hid hd.below
        clear hd hA hB
        go_wp2_with (go_at_call 13; (with_reducible refine (HW13.out _).mono ?_); rintro e w3 ⟨rfl, hb3⟩; have HB3 := Lib.hid (Below.next HB.out hb3); clear hb3)
        go_ret
        exact ⟨rfl, HB3.out⟩
end Go.Proofs.Ytloijbhilfbliaa

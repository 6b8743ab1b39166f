/-
  FolderSurvives: the walk.
-/
import Derived.Test.YtfjgefnklelnnaaOTwo
namespace Go.Proofs.Ytfjgefnklelnnaa
open Go.RowKit Go.Shelf

theorem two_does {w0 w : World} {p q : Nat} {S T : FS} (h : Two w0 w p S q T) (hl : S.weight ≤ 90000) (x a b : Nat) (n : Int) (raw : ByteArray) (hx : x ≤ 255) (ha : a ≤ 255) (hb : b ≤ 255) :
    Calls Try.prog 24 #[.agg #[.int .u8 (x : Int), .int .u8 (a : Int), .int .u8 (b : Int), .int .i8 n, .string raw], .pointer (some ⟨p, 0, none⟩)] w fun e w' => e = .returned (.tuple #[]) ∧ Two w0 w' p (S.does x a b) q T :=
  h.went (good_does h.good x a b) fun _ _ _ _ hf => does_any hf hl h.good x a b n raw hx ha hb

/-- What both loops leave: the second folder's acts are the first ones of the first one's. -/
theorem surv_eq {S : FS} {l : List Deed} {n : Int} {j K : Nat} (hA : S.A = []) (hj : j ≤ K) (hle : (S.runs (l.take j)).A.length ≤ upTo n (S.runs (l.take K)).A.length) (hend : j = K ∨ upTo n (S.runs (l.take K)).A.length ≤ (S.runs (l.take j)).A.length) :
    ((S.runs (l.take K)).survive n).there = (S.runs (l.take j)).there := by
  obtain ⟨u, hu⟩ : ∃ u, upTo n (S.runs (l.take K)).A.length = u := ⟨_, rfl⟩
  have hub : u ≤ (S.runs (l.take K)).A.length := by rw [← hu]; unfold upTo; omega
  rw [hu] at hle hend
  have hlen : (S.runs (l.take j)).A.length = u := by
    rcases hend with h | h
    · rw [h] at hle ⊢; omega
    · omega
  have hpre := runs_more S l hj
  have h1 : (S.runs (l.take K)).A.take u = (S.runs (l.take j)).A := by rw [← hlen]; exact (List.prefix_iff_eq_take.1 hpre).symm
  have h2 := (runs_acts S (l.take K)).1
  have h3 := (runs_acts S (l.take j)).1
  show actsOn (actsOn (S.runs (l.take K)).L0 ((S.runs (l.take K)).A.take (upTo n (S.runs (l.take K)).A.length))) [] = actsOn (S.runs (l.take j)).L0 (S.runs (l.take j)).A
  rw [hu, h1, h2, h3]
  rfl

set_option maxHeartbeats 20000000 in
set_option maxRecDepth 100000 in
theorem folderSurvives_walk (old : List Deed) (v0 : Value) (l : List Deed) (v : Value) (c : Int) (w : World) (ho : Deeds w v0 old) (hoko : ∀ d ∈ old, d.ok) (hl : Deeds w v l) (hok : ∀ d ∈ l, d.ok) (hc1 : -128 ≤ c) (hc2 : c ≤ 127) :
    Calls Try.prog 4 #[v0, v, .int .i8 c] w fun e w' => e = .returned (.bool true) ∧ Below w.heap.size w w' := by
  obtain ⟨ad, cp, rfl, hc⟩ := hl
  obtain ⟨ad0, cp0, rfl, hc0⟩ := ho
  have HC : Hid (∀ W, Below w.heap.size w W → ∀ i, i < l.length → (l.getD i default).ok ∧ ∃ b o, ad = some ⟨b, o, none⟩ ∧ DeedAt W b (o + i * 5) (l.getD i default)) := Lib.hid fun W hW i hi => by
    obtain ⟨b, o, ha, hlt, hd⟩ := hc i hi
    exact ⟨hok _ (by simp [List.getD, hi]), b, o, ha, hd.below hW hlt⟩
  have HC0 : Hid (∀ W, Below w.heap.size w W → ∀ i, i < old.length → (old.getD i default).ok ∧ ∃ b o, ad0 = some ⟨b, o, none⟩ ∧ DeedAt W b (o + i * 5) (old.getD i default)) := Lib.hid fun W hW i hi => by
    obtain ⟨b, o, ha, hlt, hd⟩ := hc0 i hi
    exact ⟨hoko _ (by simp [List.getD, hi]), b, o, ha, hd.below hW hlt⟩
  have HW := Lib.hid works_any
  have Q8 : Hid (∀ W, Below w.heap.size w W → Calls Try.prog 8 #[] W fun e w' => ∃ p, e = .returned (.pointer (some ⟨p, 0, none⟩)) ∧ Sole w w' p FS.new) := Lib.hid fun W hW => sole_new w W hW
  have Q8b : Hid (∀ W p, Sole w W p FS.new → Calls Try.prog 8 #[] W fun e w' => ∃ q, e = .returned (.pointer (some ⟨q, 0, none⟩)) ∧ Two w w' p FS.new q FS.new) := Lib.hid fun W p h => two_new h
  -- both are told alike
  have QN : Hid (∀ W p S q T, Two w W p S q T → S.there = T.there → S.weight ≤ 90000 → T.weight ≤ 90000 → ∃ J ts, Calls Try.prog 28 #[.pointer (some ⟨q, 0, none⟩)] W (fun e w' => ∃ v, e = .returned v ∧ w'.ownsRow W.heap.size 9 1 v (ts : List ByteArray).length (ts.map Value.string) ∧ Below W.heap.size W w') ∧
      (∀ W' v, W'.ownsRow W.heap.size 9 1 v ts.length (ts.map Value.string) → Calls Try.prog 27 #[v, .string ⟨#[32]⟩] W' fun e w' => e = .returned (.string J) ∧ Below W'.heap.size W' w') ∧
      (∀ W', Below W.heap.size W W' → Calls Try.prog 26 #[.pointer (some ⟨p, 0, none⟩), .string J] W' fun e w' => e = .returned (.bool true) ∧ Below W'.heap.size W' w')) := Lib.hid fun W p S q T h he hw1 hw2 => by
    refine ⟨strO (joinedN T.there), textsOf T.there, h.swap.read fun _ _ _ _ hf => names_any hf hw2, fun W' v hr => ?_, fun W' hb => ?_⟩
    · have := join27 hr (by rw [textsOf_length]; have := T.there_length; omega) (good_join h.swap.good)
      rw [texts_data] at this
      exact this
    · have := (h.next hb).read fun _ _ _ _ hf => names26_any hf hw1 h.good (strO (joinedN T.there))
      rw [he, strO_data, decide_eq_true rfl] at this
      exact this
  clear hc hok hc0 hoko
  go_enter Try.func4, Try.ntmps4
  go_upto_block 0 with (first
    | (go_at_call 23; (with_reducible refine (HW.out _).mono ?_); rintro e w1 ⟨rfl, h1⟩; have HB1 := Lib.hid h1; clear h1)
    | (go_at_call 8; first
        | ((with_reducible refine (Q8.out _ HB1.out).mono ?_); rintro e w2 ⟨p, rfl, h2⟩; have H2 := Lib.hid h2; clear h2 HB1)
        | ((with_reducible refine (Q8b.out _ _ H2.out).mono ?_); rintro e w3 ⟨q, rfl, h3⟩; have H3 := Lib.hid h3; clear h3)))
  clear H2 Q8 Q8b HW
  go_cut [9] from 22 to 43 (fun s9 wx => ∃ (z : Value) (S : FS), s9 = z ∧ S.weight ≤ 70 ∧ Two w wx p S q S)
  case first =>
    clear QN HC
    go_wp2_with fail
    go_loopw [9] (fun s9 wr => ∃ k : Nat, k ≤ 30 ∧ k ≤ old.length ∧ s9 = .int .i64 k ∧ Two w wr p (FS.new.runs (old.take k)) q (FS.new.runs (old.take k))) (fun s9 _ => 30 - (intOf s9).toNat)
    case atStart => exact ⟨0, by omega, Nat.zero_le _, rfl, H3.out⟩
    case round =>
      obtain ⟨k, hk, hkl, rfl, hs⟩ := hrel
      have HS := Lib.hid hs
      clear hs
      by_cases hlk : k < old.length ∧ k < 30
      · obtain ⟨hlt, h30⟩ := hlk
        obtain ⟨⟨ok0, ok1, ok2, ok3, ok4, ok5⟩, b, o, rfl, c0, c1, c2, c3, c4⟩ := HC0.out _ HS.out.below k hlt
        obtain ⟨S, hS⟩ : ∃ S, FS.new.runs (old.take k) = S := ⟨_, rfl⟩
        have hrt := runs_take FS.new old k hlt
        have hwt := weight_runs FS.new (old.take k)
        rw [hS] at HS hrt hwt
        have hw0 : S.weight ≤ 60 := by have h0 : FS.new.weight = 0 := rfl; have h1 : (old.take k).length ≤ 30 := by rw [List.length_take]; omega
                                       omega
        have HCW : Hid (∀ W, Below w.heap.size w W → DeedAt W b (o + k * 5) (old.getD k default)) := Lib.hid fun W hW => by
          obtain ⟨_, b2, o2, hb2, hd⟩ := HC0.out W hW k hlt
          cases hb2
          exact hd
        obtain ⟨⟨x, a, b', n, raw⟩, hx⟩ : ∃ d, old.getD k default = d := ⟨_, rfl⟩
        rw [hx] at c0 c1 c2 c3 c4 ok0 ok1 ok2 ok3 ok4 ok5 hrt HCW
        simp only at c0 c1 c2 c3 c4 ok0 ok1 ok2 ok3 ok4 ok5 hrt
        have Q24a : Hid (Calls Try.prog 24 #[.agg #[.int .u8 (x : Int), .int .u8 (a : Int), .int .u8 (b' : Int), .int .i8 n, .string raw], .pointer (some ⟨p, 0, none⟩)] wr fun e w' => e = .returned (.tuple #[]) ∧ Two w w' p (S.does x a b') q S) := Lib.hid (two_does HS.out (by omega) x a b' n raw ok0 ok1 ok2)
        have Q24b : Hid (∀ W, Two w W p (S.does x a b') q S → Calls Try.prog 24 #[.agg #[.int .u8 (x : Int), .int .u8 (a : Int), .int .u8 (b' : Int), .int .i8 n, .string raw], .pointer (some ⟨q, 0, none⟩)] W fun e w' => e = .returned (.tuple #[]) ∧ Two w w' p (S.does x a b') q (S.does x a b')) := Lib.hid fun W h => (two_does h.swap (by omega) x a b' n raw ok0 ok1 ok2).mono fun e w' h' => ⟨h'.1, h'.2.swap⟩
        have e1 : decide ((k : Int) < (old.length : Int)) = true := decide_eq_true (by omega)
        have e2 : decide ((k : Int) < 30) = true := decide_eq_true (by omega)
        have HRT := Lib.hid hrt
        clear hS hwt hx ok4 ok5 hrt
        go_wp2_with (go_at_call 24; first
          | ((with_reducible refine Q24a.out.mono ?_); rintro e w4 ⟨rfl, h4⟩; have H4 := Lib.hid h4; clear h4 c0 c1 c2 c3 c4; obtain ⟨c0, c1, c2, c3, c4⟩ := HCW.out _ H4.out.below; simp only at c0 c1 c2 c3 c4)
          | ((with_reducible refine (Q24b.out _ H4.out).mono ?_); rintro e w5 ⟨rfl, h5⟩; have H5 := Lib.hid h5; clear h5))
        exact ⟨⟨k + 1, by omega, by omega, by go_num, by rw [HRT.out]; exact H5.out⟩, by simp [intOf]; omega⟩
      · obtain ⟨S, hS⟩ : ∃ S, FS.new.runs (old.take k) = S := ⟨_, rfl⟩
        have hwt := weight_runs FS.new (old.take k)
        rw [hS] at HS hwt
        have hw0 : S.weight ≤ 70 := by have h0 : FS.new.weight = 0 := rfl; have h1 : (old.take k).length ≤ 30 := by rw [List.length_take]; omega
                                       omega
        clear hS hwt
        have hb : k < old.length ∧ ¬ k < 30 ∨ ¬ k < old.length := by omega
        rcases hb with ⟨h1, h2⟩ | h1
        · have e1 : decide ((k : Int) < (old.length : Int)) = true := decide_eq_true (by omega)
          have e2 : decide ((k : Int) < 30) = false := decide_eq_false (by omega)
          go_wp2_with fail
          go_meet
          exact ⟨_, S, rfl, hw0, HS.out⟩
        · have e1 : decide ((k : Int) < (old.length : Int)) = false := decide_eq_false (by omega)
          go_wp2_with fail
          go_meet
          exact ⟨_, S, rfl, hw0, HS.out⟩
  case rest =>
  obtain ⟨z9, S, rfl, hw0, hs⟩ := hcut
  clear H3 HC0
  have Q17a := Lib.hid (hs.went (good_sync hs.good) fun _ _ _ _ hf => sync_any hf (by omega))
  have Q17b : Hid (∀ W, Two w W p S.sync q S → Calls Try.prog 17 #[.pointer (some ⟨q, 0, none⟩)] W fun e w' => e = .returned (.tuple #[]) ∧ Two w w' p S.sync q S.sync) := Lib.hid fun W h => (h.swap.went (good_sync h.swap.good) fun _ _ _ _ hf => sync_any hf (by omega)).mono fun e w' h' => ⟨h'.1, h'.2.swap⟩
  have hw2 : S.sync.weight ≤ 70 := Nat.le_trans (weight_sync S) hw0
  have hA2 : S.sync.A = [] := rfl
  obtain ⟨S2, hS2⟩ : ∃ S2, S.sync = S2 := ⟨_, rfl⟩
  rw [hS2] at Q17a Q17b hw2 hA2
  have HA2 := Lib.hid hA2
  have Q25a : Hid (∀ W, Two w W p S2 q S2 → Calls Try.prog 25 #[.pointer (some ⟨p, 0, none⟩)] W fun e w' => e = .returned (.int .i64 0) ∧ W = w') := Lib.hid fun W h => by
    have := h.read fun _ _ _ _ hf => pending_any hf
    rw [HA2.out] at this
    exact this
  clear hs hS2 hA2 hw0
  go_upto_region 11 with (go_at_call 17; first
    | ((with_reducible refine Q17a.out.mono ?_); rintro e w4 ⟨rfl, h4⟩; have H4 := Lib.hid h4; clear h4)
    | ((with_reducible refine (Q17b.out _ H4.out).mono ?_); rintro e w5 ⟨rfl, h5⟩; have H5 := Lib.hid h5; clear h5))
  obtain ⟨J, ts, n1, n2, n3⟩ := QN.out _ _ _ _ _ H5.out rfl (by omega) (by omega)
  have N1 := Lib.hid n1
  have N2 := Lib.hid n2
  have N3 := Lib.hid n3
  clear n1 n2 n3 H4
  go_upto_block 2 with (first
    | (go_at_call 25; (with_reducible refine (Q25a.out _ H5.out).mono ?_); rintro e w6 ⟨rfl, rfl⟩)
    | (go_at_call 28; (with_reducible refine N1.out.mono ?_); rintro e w7 ⟨v, rfl, r1, b1⟩; obtain ⟨ad9, c9, hv⟩ := row_shape r1; subst hv; have R1 := Lib.hid r1; have B1 := Lib.hid b1; clear r1 b1)
    | (go_at_call 27; (with_reducible refine (N2.out _ _ R1.out).mono ?_); rintro e w8 ⟨rfl, b2⟩; have B2 := Lib.hid (Below.next B1.out b2); clear b2)
    | (go_at_call 26; (with_reducible refine (N3.out _ B2.out).mono ?_); rintro e w9 ⟨rfl, b3⟩; have H9 := Lib.hid (H5.out.next (Below.next B2.out b3)); clear b3))
  clear N1 N2 N3 R1 B1 B2 H5 Q17a Q17b
  -- acts that do not last
  go_cut [10] from 59 to 79 (fun s10 wx => ∃ (z : Value) (K : Nat), s10 = z ∧ K ≤ 30 ∧ K ≤ l.length ∧ (K = 30 ∨ K = l.length) ∧ Two w wx p (S2.runs (l.take K)) q S2)
  case first =>
    go_wp2_with fail
    go_loopw [10] (fun s10 wr => ∃ k : Nat, k ≤ 30 ∧ k ≤ l.length ∧ s10 = .int .i64 k ∧ Two w wr p (S2.runs (l.take k)) q S2) (fun s10 _ => 30 - (intOf s10).toNat)
    case atStart => exact ⟨0, by omega, Nat.zero_le _, rfl, H9.out⟩
    case round =>
      obtain ⟨k, hk, hkl, rfl, hs⟩ := hrel
      have HS := Lib.hid hs
      clear hs QN
      by_cases hlk : k < l.length ∧ k < 30
      · obtain ⟨hlt, h30⟩ := hlk
        obtain ⟨⟨ok0, ok1, ok2, ok3, ok4, ok5⟩, b, o, rfl, c0, c1, c2, c3, c4⟩ := HC.out _ HS.out.below k hlt
        obtain ⟨T, hT⟩ : ∃ T, S2.runs (l.take k) = T := ⟨_, rfl⟩
        have hrt := runs_take S2 l k hlt
        have hwt := weight_runs S2 (l.take k)
        have hac := (runs_acts S2 (l.take (k + 1))).2.2
        rw [hT] at HS hrt hwt
        have hlt' : (l.take k).length ≤ 30 := by rw [List.length_take]; omega
        have hlt2 : (l.take (k + 1)).length ≤ k + 1 := by rw [List.length_take]; omega
        have hA0 : S2.A.length = 0 := by rw [HA2.out]; rfl
        have hw0 : T.weight ≤ 200 := by omega
        obtain ⟨⟨x, a, b', n, raw⟩, hx⟩ : ∃ d, l.getD k default = d := ⟨_, rfl⟩
        rw [hx] at c0 c1 c2 c3 c4 ok0 ok1 ok2 ok3 ok4 ok5 hrt
        simp only at c0 c1 c2 c3 c4 ok0 ok1 ok2 ok3 ok4 ok5 hrt
        rw [hrt] at hac
        have hac' : (T.does x a b').A.length ≤ k + 1 := by omega
        have Q24 : Hid (Calls Try.prog 24 #[.agg #[.int .u8 (x : Int), .int .u8 (a : Int), .int .u8 (b' : Int), .int .i8 n, .string raw], .pointer (some ⟨p, 0, none⟩)] wr fun e w' => e = .returned (.tuple #[]) ∧ Two w w' p (T.does x a b') q S2) := Lib.hid (two_does HS.out (by omega) x a b' n raw ok0 ok1 ok2)
        obtain ⟨T', hT'⟩ : ∃ T', T.does x a b' = T' := ⟨_, rfl⟩
        rw [hT'] at Q24 hrt hac'
        obtain ⟨pn, hpn⟩ : ∃ pn, T'.A.length = pn := ⟨_, rfl⟩
        have Q25 : Hid (∀ W, Two w W p T' q S2 → Calls Try.prog 25 #[.pointer (some ⟨p, 0, none⟩)] W fun e w' => e = .returned (.int .i64 (pn : Nat)) ∧ W = w') := Lib.hid fun W h => by
          have := h.read fun _ _ _ _ hf => pending_any hf
          rw [hpn] at this
          exact this
        rw [hpn] at hac'
        have e1 : decide ((k : Int) < (l.length : Int)) = true := decide_eq_true (by omega)
        have e2 : decide ((k : Int) < 30) = true := decide_eq_true (by omega)
        have e3 : ¬ (k : Int) + 1 < (pn : Int) := by omega
        have e3' : decide ((k : Int) + 1 < (pn : Int)) = false := decide_eq_false e3
        have HRT := Lib.hid hrt
        clear hT hwt hx ok4 ok5 hrt hT' hpn hac hlt' hlt2 hA0
        go_wp2_with (first
          | (go_at_call 24; (with_reducible refine Q24.out.mono ?_); rintro e w4 ⟨rfl, h4⟩; have H4 := Lib.hid h4; clear h4)
          | (go_at_call 25; (with_reducible refine (Q25.out _ H4.out).mono ?_); rintro e w6 ⟨rfl, rfl⟩))
        exact ⟨⟨k + 1, by omega, by omega, by go_num, by rw [HRT.out]; exact H4.out⟩, by simp [intOf]; omega⟩
      · have hb : k < l.length ∧ ¬ k < 30 ∨ ¬ k < l.length := by omega
        rcases hb with ⟨h1, h2⟩ | h1
        · have e1 : decide ((k : Int) < (l.length : Int)) = true := decide_eq_true (by omega)
          have e2 : decide ((k : Int) < 30) = false := decide_eq_false (by omega)
          go_wp2_with fail
          go_meet
          exact ⟨_, k, rfl, hk, hkl, .inl (by omega), HS.out⟩
        · have e1 : decide ((k : Int) < (l.length : Int)) = false := decide_eq_false (by omega)
          go_wp2_with fail
          go_meet
          exact ⟨_, k, rfl, hk, hkl, .inr (by omega), HS.out⟩
  case rest =>
  obtain ⟨z10, K, rfl, hK1, hK2, hK3, hs⟩ := hcut
  have H10 := Lib.hid hs
  have hK3 := Lib.hid hK3
  clear hs H9
  obtain ⟨SF, hSF⟩ : ∃ SF, S2.runs (l.take K) = SF := ⟨_, rfl⟩
  have hwF : SF.weight ≤ 200 := by
    rw [← hSF]
    have := weight_runs S2 (l.take K)
    have h2 : (l.take K).length ≤ 30 := by rw [List.length_take]; omega
    omega
  obtain ⟨pf, hpf⟩ : ∃ pf, SF.A.length = pf := ⟨_, rfl⟩
  obtain ⟨kk, hkk⟩ : ∃ kk, upTo c pf = kk := ⟨_, rfl⟩
  have hkki : (kk : Int) = max (min c (pf : Int)) 0 := by rw [← hkk]; unfold upTo; omega
  rw [hSF] at H10
  have Q25 : Hid (∀ W T, Two w W p SF q T → Calls Try.prog 25 #[.pointer (some ⟨p, 0, none⟩)] W fun e w' => e = .returned (.int .i64 (pf : Nat)) ∧ W = w') := Lib.hid fun W T h => by
    have := h.read fun _ _ _ _ hf => pending_any hf
    rw [hpf] at this
    exact this
  have hpfw : pf ≤ 200 := by rw [← hpf]; unfold FS.weight at hwF; omega
  have HSF := Lib.hid hSF
  have HPF := Lib.hid hpf
  have HKK := Lib.hid hkk
  clear hSF hpf hkk
  go_upto_region 19 with fail
  go_cut [11] from 80 to 85 (fun s11 wx => s11 = .int .i64 (kk : Nat) ∧ wx = wc)
  case first =>
    go_wp2_with (go_at_call 25; (with_reducible refine (Q25.out _ _ H10.out).mono ?_); rintro e w6 ⟨rfl, rfl⟩)
    all_goals
      go_meet
      refine ⟨?_, rfl⟩
      congr 1
      omega
  case rest =>
  obtain ⟨rfl, hwc⟩ := hcut
  subst hwc
  clear hkki
  -- as many of them, once more
  go_upto_block 4 with fail
  go_cut [12] from 86 to 107 (fun s12 wx => ∃ (z : Value) (T : FS), s12 = z ∧ T.weight ≤ 200 ∧ (SF.survive c).there = T.there ∧ Two w wx p SF q T)
  case first =>
    go_wp2_with fail
    go_loopw [12] (fun s12 wr => ∃ k : Nat, k ≤ K ∧ s12 = .int .i64 k ∧ (S2.runs (l.take k)).A.length ≤ kk ∧ Two w wr p SF q (S2.runs (l.take k))) (fun s12 _ => 30 - (intOf s12).toNat)
    case atStart => exact ⟨0, Nat.zero_le _, rfl, by show S2.A.length ≤ kk; rw [HA2.out]; exact Nat.zero_le _, H10.out⟩
    case round =>
      obtain ⟨k, hk, rfl, hac0, hs⟩ := hrel
      have HS := Lib.hid hs
      clear hs QN
      obtain ⟨T, hT⟩ : ∃ T, S2.runs (l.take k) = T := ⟨_, rfl⟩
      have hwt := weight_runs S2 (l.take k)
      have hlt' : (l.take k).length ≤ 30 := by rw [List.length_take]; omega
      rw [hT] at HS hwt hac0
      have hw0 : T.weight ≤ 200 := by omega
      obtain ⟨pn, hpn⟩ : ∃ pn, T.A.length = pn := ⟨_, rfl⟩
      have Q25 : Hid (∀ W, Two w W p SF q T → Calls Try.prog 25 #[.pointer (some ⟨q, 0, none⟩)] W fun e w' => e = .returned (.int .i64 (pn : Nat)) ∧ W = w') := Lib.hid fun W h => by
        have := h.swap.read fun _ _ _ _ hf => pending_any hf
        rw [hpn] at this
        exact this
      rw [hpn] at hac0
      have hdone : (k = K ∨ kk ≤ pn) → (SF.survive c).there = T.there := fun hend => by
        rw [← HSF.out, ← hT]
        refine surv_eq HA2.out hk ?_ ?_
        · rw [hT, hpn, HSF.out, HPF.out, HKK.out]; exact hac0
        · rw [hT, hpn, HSF.out, HPF.out, HKK.out]; exact hend
      have HD := Lib.hid hdone
      clear hdone hwt hlt'
      by_cases hlk : k < l.length ∧ k < 30
      · obtain ⟨hlt, h30⟩ := hlk
        have e1 : decide ((k : Int) < (l.length : Int)) = true := decide_eq_true (by omega)
        have e2 : decide ((k : Int) < 30) = true := decide_eq_true (by omega)
        by_cases hpk : pn < kk
        · have hkK : k < K := by
            rcases Nat.lt_or_ge k K with h | h
            · exact h
            · exfalso
              have hkk' : k = K := by omega
              have h1 : pn = pf := by rw [← hpn, ← hT, hkk', HSF.out]; exact HPF.out
              have h2 : kk ≤ pf := by rw [← HKK.out]; unfold upTo; omega
              omega
          obtain ⟨⟨ok0, ok1, ok2, ok3, ok4, ok5⟩, b, o, rfl, c0, c1, c2, c3, c4⟩ := HC.out _ HS.out.below k hlt
          have hrt := runs_take S2 l k hlt
          rw [hT] at hrt
          obtain ⟨⟨x, a, b', n, raw⟩, hx⟩ : ∃ d, l.getD k default = d := ⟨_, rfl⟩
          rw [hx] at c0 c1 c2 c3 c4 ok0 ok1 ok2 ok3 ok4 ok5 hrt
          simp only at c0 c1 c2 c3 c4 ok0 ok1 ok2 ok3 ok4 ok5 hrt
          have hal : (T.does x a b').A.length ≤ kk := by
            rcases (does_acts T x a b').2 with h | ⟨y, h⟩
            · rw [h, hpn]; omega
            · rw [h, List.length_append, hpn]; simp; omega
          have Q24 : Hid (∀ W, Two w W p SF q T → Calls Try.prog 24 #[.agg #[.int .u8 (x : Int), .int .u8 (a : Int), .int .u8 (b' : Int), .int .i8 n, .string raw], .pointer (some ⟨q, 0, none⟩)] W fun e w' => e = .returned (.tuple #[]) ∧ Two w w' p SF q (T.does x a b')) := Lib.hid fun W h => (two_does h.swap (by omega) x a b' n raw ok0 ok1 ok2).mono fun e w' h' => ⟨h'.1, h'.2.swap⟩
          have e3 : decide ((pn : Int) < (kk : Int)) = true := decide_eq_true (by omega)
          have HRT := Lib.hid (And.intro hrt hal)
          clear hT hx ok4 ok5 hrt hal hpn
          go_wp2_with (first
            | (go_at_call 24; (with_reducible refine (Q24.out _ HS.out).mono ?_); rintro e w4 ⟨rfl, h4⟩; have H4 := Lib.hid h4; clear h4)
            | (go_at_call 25; (with_reducible refine (Q25.out _ HS.out).mono ?_); rintro e w6 ⟨rfl, rfl⟩))
          exact ⟨⟨k + 1, by omega, by go_num, by rw [HRT.out.1]; exact HRT.out.2, by rw [HRT.out.1]; exact H4.out⟩, by simp [intOf]; omega⟩
        · have e3 : decide ((pn : Int) < (kk : Int)) = false := decide_eq_false (by omega)
          have hd := Lib.hid (HD.out (.inr (by omega)))
          clear hT hpn HD
          go_wp2_with (go_at_call 25; (with_reducible refine (Q25.out _ HS.out).mono ?_); rintro e w6 ⟨rfl, rfl⟩)
          go_meet
          exact ⟨_, T, rfl, hw0, hd.out, HS.out⟩
      · have hkK : k = K := by have := hK3.out; omega
        have hd := Lib.hid (HD.out (.inl hkK))
        have hb : k < l.length ∧ ¬ k < 30 ∨ ¬ k < l.length := by omega
        clear hT hpn HD
        rcases hb with ⟨h1, h2⟩ | h1
        · have e1 : decide ((k : Int) < (l.length : Int)) = true := decide_eq_true (by omega)
          have e2 : decide ((k : Int) < 30) = false := decide_eq_false (by omega)
          go_wp2_with fail
          go_meet
          exact ⟨_, T, rfl, hw0, hd.out, HS.out⟩
        · have e1 : decide ((k : Int) < (l.length : Int)) = false := decide_eq_false (by omega)
          go_wp2_with fail
          go_meet
          exact ⟨_, T, rfl, hw0, hd.out, HS.out⟩
  case rest =>
  obtain ⟨z12, T, rfl, hwT, hth, hs⟩ := hcut
  have H12 := Lib.hid hs
  clear hs H10 Q25 HC
  obtain ⟨SG, hSG⟩ : ∃ SG, SF.survive c = SG := ⟨_, rfl⟩
  have Q20 : Hid (Calls Try.prog 20 #[.pointer (some ⟨p, 0, none⟩), .int .i64 c] wc fun e w' => e = .returned (.tuple #[]) ∧ Two w w' p SG q T) := Lib.hid (by
    rw [← hSG]
    exact H12.out.went (good_survive H12.out.good c) fun _ _ _ _ hf => survive_any hf c (by omega) (by omega))
  have hwG : SG.weight ≤ 200 := by rw [← hSG]; exact Nat.le_trans (weight_survive SF c) hwF
  have hAG : SG.A = [] := by rw [← hSG]; rfl
  rw [hSG] at hth
  have HTH := Lib.hid hth
  have Q25g : Hid (∀ W, Two w W p SG q T → Calls Try.prog 25 #[.pointer (some ⟨p, 0, none⟩)] W fun e w' => e = .returned (.int .i64 0) ∧ W = w') := Lib.hid fun W h => by
    have := h.read fun _ _ _ _ hf => pending_any hf
    rw [hAG] at this
    exact this
  clear hSG hAG hth
  go_upto_region 25 with (go_at_call 20; (with_reducible refine Q20.out.mono ?_); rintro e w13 ⟨rfl, h13⟩; have H13 := Lib.hid h13; clear h13)
  obtain ⟨J2, ts2, n1, n2, n3⟩ := QN.out _ _ _ _ _ H13.out HTH.out (by omega) (by omega)
  have N1 := Lib.hid n1
  have N2 := Lib.hid n2
  have N3 := Lib.hid n3
  clear n1 n2 n3 H12 Q20 QN
  go_upto_block 6 with (first
    | (go_at_call 25; (with_reducible refine (Q25g.out _ H13.out).mono ?_); rintro e w6 ⟨rfl, rfl⟩)
    | (go_at_call 28; (with_reducible refine N1.out.mono ?_); rintro e w7 ⟨v, rfl, r1, b1⟩; obtain ⟨ad9, c9, hv⟩ := row_shape r1; subst hv; have R1 := Lib.hid r1; have B1 := Lib.hid b1; clear r1 b1)
    | (go_at_call 27; (with_reducible refine (N2.out _ _ R1.out).mono ?_); rintro e w8 ⟨rfl, b2⟩; have B2 := Lib.hid (Below.next B1.out b2); clear b2)
    | (go_at_call 26; (with_reducible refine (N3.out _ B2.out).mono ?_); rintro e w9 ⟨rfl, b3⟩; have H14 := Lib.hid (H13.out.next (Below.next B2.out b3)); clear b3))
  clear N1 N2 N3 R1 B1 B2 H13 Q25g
  go_wp2_with fail
  go_loopw [13] (fun s13 wr => ∃ k : Nat, k ≤ 7 ∧ s13 = .int .u8 k ∧ Two w wr p SG q T) (fun s13 _ => 7 - (intOf s13).toNat)
  case atStart => exact ⟨0, by omega, rfl, H14.out⟩
  case round =>
    obtain ⟨k, hk, rfl, hs⟩ := hrel
    have HS := Lib.hid hs
    clear hs
    by_cases h7 : k < 7
    · have Q10 : Hid (∀ W, Calls Try.prog 10 #[.int .u8 (k : Int)] W fun e w' => e = .returned (.string (nameT k)) ∧ Below W.heap.size W w') := Lib.hid fun W => name_any k (by omega) W
      have hza := nameT_size k
      obtain ⟨na, hna⟩ : ∃ na, nameT k = na := ⟨_, rfl⟩
      rw [hna] at Q10 hza
      obtain ⟨mm, hmm⟩ : ∃ mm, foundN T.there na.data.toList = mm := ⟨_, rfl⟩
      obtain ⟨bb, hbb⟩ : ∃ bb, foundB T.there na.data.toList = bb := ⟨_, rfl⟩
      have Q29a : Hid (∀ W, Two w W p SG q T → Calls Try.prog 29 #[.pointer (some ⟨p, 0, none⟩), .string na] W fun e w' => e = .returned (.tuple #[.int .i64 (mm : Nat), .bool bb]) ∧ W = w') := Lib.hid fun W h => by
        have := h.read fun _ _ _ _ hf => find_any hf na (by omega)
        rw [show actsOn SG.L0 SG.A = T.there from HTH.out, hmm, hbb] at this
        exact this
      have Q29b : Hid (∀ W, Two w W p SG q T → Calls Try.prog 29 #[.pointer (some ⟨q, 0, none⟩), .string na] W fun e w' => e = .returned (.tuple #[.int .i64 (mm : Nat), .bool bb]) ∧ W = w') := Lib.hid fun W h => by
        have := h.swap.read fun _ _ _ _ hf => find_any hf na (by omega)
        rw [show actsOn T.L0 T.A = T.there from rfl, hmm, hbb] at this
        exact this
      have e1 : decide ((k : Int) < 7) = true := decide_eq_true (by omega)
      have htt : (bb != bb) = false := by simp
      clear hna hmm hbb
      go_wp2_with (first
        | (go_at_call 10; first
            | (have := H21; (with_reducible refine (Q10.out _).mono ?_); rintro e w22 ⟨rfl, h22⟩; have H22 := Lib.hid (H21.out.next h22); clear h22)
            | ((with_reducible refine (Q10.out _).mono ?_); rintro e w21 ⟨rfl, h21⟩; have H21 := Lib.hid (HS.out.next h21); clear h21))
        | (go_at_call 29; first
            | ((with_reducible refine (Q29a.out _ H21.out).mono ?_); rintro e w23 ⟨rfl, rfl⟩)
            | ((with_reducible refine (Q29b.out _ H22.out).mono ?_); rintro e w24 ⟨rfl, rfl⟩)))
      exact ⟨⟨k + 1, by omega, by go_num, H22.out⟩, by simp [intOf]; omega⟩
    · have e1 : decide ((k : Int) < 7) = false := decide_eq_false (by omega)
      go_wp2_with fail
      go_ret
      exact ⟨rfl, HS.out.below⟩
end Go.Proofs.Ytfjgefnklelnnaa

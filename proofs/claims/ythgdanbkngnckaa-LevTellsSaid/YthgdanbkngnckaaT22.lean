/-
  The library's sort at bytes, of fewer than a thousand elements: the whole.
-/
import Derived.Test.YthgdanbkngnckaaT12
import Derived.Test.YthgdanbkngnckaaT14
import Derived.Test.YthgdanbkngnckaaT15
import Derived.Test.YthgdanbkngnckaaT16
import Derived.Test.YthgdanbkngnckaaT17
import Derived.Test.YthgdanbkngnckaaT19
import Derived.Test.YthgdanbkngnckaaT20
import Derived.Test.YthgdanbkngnckaaT21
import Derived.Sort.LotA
import Derived.Sort.LotB
import Derived.Sort.LotC
import Derived.Sort.LotD3
import Derived.Deep.CutRange
set_option linter.unusedVariables false
set_option linter.unusedSimpArgs false
namespace Go.Proofs.Ythgdanbkngnckaa
open Go.RowKit Go.Sort

theorem pivot8c (blk len cap a b : Nat) (d : Array UInt8) (w0 w : World) (hlen : d.size = len) (S : S8 w0 blk d w) (h12 : a + 12 < b) (hb : b ≤ len) (hsz : len < 4611686018427387904) :
    Calls Try.prog 93 #[.slice (some ⟨blk, 0, none⟩) len cap, .int .i64 a, .int .i64 b] w fun e w' => ∃ p h, Piv w0 blk a b d e w' p h := by
  by_cases h : b < a + 50
  · exact pivot8 blk len cap a b d w0 w hlen S h12 h hb hsz
  · exact pivot8b blk len cap a b d w0 w hlen S (by omega) hb hsz
theorem partial8c (blk len cap a b : Nat) (d : Array UInt8) (w0 w : World) (hlen : d.size = len) (S : S8 w0 blk d w) (hab : a < b) (hb : b ≤ len) (hsz : len < 4611686018427387904) :
    Calls Try.prog 95 #[.slice (some ⟨blk, 0, none⟩) len cap, .int .i64 a, .int .i64 b] w fun e w' => ∃ R : Array UInt8 × Bool, Sort.partialInsertionSort lt8 d a b = R ∧ e = .returned (.bool R.2) ∧ S8 w0 blk R.1 w' := by
  by_cases h : b < a + 50
  · refine (partial8 blk len cap a b d w0 w hlen S hab h hb hsz).mono ?_
    rintro e w' ⟨r, he, hR, hS⟩
    exact ⟨(d, r), hR, he, hS⟩
  · exact partial8b blk len cap a b d w0 w hlen S hab (by omega) hb hsz

/-- What a sort of a part leaves. -/
structure Done8 (w0 : World) (blk a b : Nat) (d d' : Array UInt8) (e : Ending) (w' : World) : Prop where
  ans : e = .returned (.tuple #[])
  perm : PermIn a b d d'
  sorted : SortedIn lt8 a b d'
  S : S8 w0 blk d' w'

/-- What a round of the sort has come to: the part that is left, and what that gives. -/
structure At8 (w0 : World) (blk len a b : Nat) (d : Array UInt8) (a' b' lim : Nat) (dk : Array UInt8) (W : World) : Prop where
  ab : a' ≤ b'
  bl : b' ≤ len
  less : b' - a' ≤ b - a
  lim : lim ≤ 100
  size : dk.size = len
  low : Sort.Below lt8 a' b' dk
  S : S8 w0 blk dk W
  goal : ∀ R, PermIn a' b' dk R → SortedIn lt8 a' b' R → PermIn a b d R ∧ SortedIn lt8 a b R

set_option maxHeartbeats 4000000 in
set_option maxRecDepth 100000 in
theorem pdq8_of (blk len cap : Nat) (w0 : World) (hsz : len < 4611686018427387904) (n : Nat)
    (IH : ∀ (a b limit : Nat) (d : Array UInt8) (w : World), b - a < n → d.size = len → S8 w0 blk d w → a ≤ b → b ≤ len → b < a + 1000 → limit ≤ 100 → Sort.Below lt8 a b d →
      Calls Try.prog 86 #[.slice (some ⟨blk, 0, none⟩) len cap, .int .i64 a, .int .i64 b, .int .i64 limit] w fun e w' => ∃ d', Done8 w0 blk a b d d' e w')
    (a b limit : Nat) (d : Array UInt8) (w : World) (hn : b - a = n) (hlen : d.size = len) (S : S8 w0 blk d w) (hab : a ≤ b) (hb : b ≤ len) (h50 : b < a + 1000) (hlim : limit ≤ 100) (hB : Sort.Below lt8 a b d) :
    Calls Try.prog 86 #[.slice (some ⟨blk, 0, none⟩) len cap, .int .i64 a, .int .i64 b, .int .i64 limit] w fun e w' => ∃ d', Done8 w0 blk a b d d' e w' := by
  have A0 : Hid (At8 w0 blk len a b d a b limit d w) := Lib.hid ⟨hab, hb, Nat.le_refl _, hlim, hlen, hB, S, fun R h1 h2 => ⟨h1, h2⟩⟩
  have IH' := Lib.hid IH
  have h49 : b - a < 1000 := by omega
  clear hlen S hB IH hab h50
  go_enter Try.func86, Try.ntmps86
  go_wp2
  go_loopw [1, 2, 3, 8, 9] (fun v1 v2 v3 v8 v9 wr => ∃ (a' b' lim : Nat) (wb wp : Bool) (dk : Array UInt8), v1 = .int .i64 a' ∧ v2 = .int .i64 b' ∧ v3 = .int .i64 lim ∧ v8 = .bool wb ∧ v9 = .bool wp ∧ At8 w0 blk len a b d a' b' lim dk wr) (fun v1 v2 _ _ _ _ => (intOf v2 - intOf v1).toNat)
  case atStart => exact ⟨a, b, limit, true, true, d, rfl, rfl, rfl, rfl, rfl, A0.out⟩
  case round =>
    clear A0
    obtain ⟨a', b', lim, wb, wp, dk, rfl, rfl, rfl, rfl, rfl, At⟩ := hrel
    have hab := At.ab
    have hbl := At.bl
    have hll := At.less
    have hlm := At.lim
    have hls : len < 4611686018427387904 := hsz
    obtain ⟨l, hl⟩ : ∃ l, l = b' - a' := ⟨_, rfl⟩
    have el : (b' : Int) - (a' : Int) = (l : Int) := by omega
    have AT := Lib.hid At
    clear At
    by_cases h12 : l ≤ 12
    · -- the insertion sort
      have h1 := insertionSort_holds (lt := lt8) swo8 dk a' b' hab (by have := AT.out.size; omega)
      obtain ⟨g1, g2⟩ := AT.out.goal _ h1.1 h1.2
      have q := ins8 blk cap a' b' dk w0 wr AT.out.S hab (by have := AT.out.size; omega) (by have := AT.out.size; omega)
      rw [AT.out.size] at q
      have HG := Lib.hid (And.intro g1 g2)
      have d12 : (l : Int) ≤ 12 := by omega
      clear g1 g2 h1 hl
      go_wp2_with (go_at_call 90; (with_reducible refine q.mono ?_); rintro e w1 ⟨rfl, S1⟩; have HS := Lib.hid S1; clear S1 q)
      exact bodyPost_ret (v := .tuple #[]) (by simp [results, Try.results86, go_sem]) rfl ⟨_, rfl, HG.out.1, HG.out.2, HS.out⟩
    have d12 : ¬ (l : Int) ≤ 12 := by omega
    by_cases h0 : lim = 0
    · -- the heap sort
      have h1 := heapSort_holds (lt := lt8) swo8 dk a' b' hab (by have := AT.out.size; omega)
      obtain ⟨g1, g2⟩ := AT.out.goal _ h1.1 h1.2
      have q := heap8 blk len cap a' b' dk w0 wr AT.out.size AT.out.S hab (by have := AT.out.size; omega) (by have := AT.out.size; omega)
      have HG := Lib.hid (And.intro g1 g2)
      have e0 : ((lim : Int) == 0) = true := by rw [beq_iff_eq]; omega
      have HL0 := Lib.hid h0
      clear g1 g2 h1 hl h0
      go_wp2_with (go_at_call 91; (with_reducible refine q.mono ?_); rintro e w1 ⟨rfl, S1⟩; have HS := Lib.hid S1; clear S1 q)
      exact bodyPost_ret (v := .tuple #[]) (by simp [results, Try.results86, go_sem]) rfl ⟨_, rfl, HG.out.1, HG.out.2, HS.out⟩
    have e0 : ((lim : Int) == 0) = false := by rw [beq_eq_false_iff_ne]; omega
    have e0' : ¬ (lim : Int) = 0 := by omega
    have hlim1 : 1 ≤ lim := by omega
    have hl12 : a' + 12 < b' := by omega
    have hl50 : b' < a' + 1000 := by omega
    have HL := Lib.hid hl
    have HL0 := Lib.hid h0
    have HL12 := Lib.hid h12
    clear hl h0 h12
    go_upto_if 35 with fail
    go_cut [3] from 35 to 41 (fun s3 wx => ∃ (lim' : Nat) (d1 : Array UInt8), s3 = .int .i64 lim' ∧ lim' ≤ lim ∧ PermIn a' b' dk d1 ∧ S8 w0 blk d1 wx)
    case first =>
      cases wb
      · have q := break8 blk len cap a' b' dk w0 wr AT.out.size AT.out.S hl12 hl50 hbl hsz
        go_wp2_with (go_at_call 92; (with_reducible refine q.mono ?_); rintro e w1 ⟨rfl, d1, P1, S1⟩; have HS := Lib.hid S1; have HP := Lib.hid P1; clear S1 P1 q)
        go_meet
        exact ⟨lim - 1, _, by congr 1; omega, by omega, HP.out, HS.out⟩
      · go_wp2
        go_meet
        exact ⟨lim, dk, rfl, Nat.le_refl _, permIn_refl _ _ _, AT.out.S⟩
    obtain ⟨lim', d1, rfl, hlim', P1, S1⟩ := hcut
    have HP1 := Lib.hid P1
    have hs1 : d1.size = len := by rw [P1.1]; exact AT.out.size
    have B1 := Lib.hid (AT.out.low.perm (by have := AT.out.size; omega) P1)
    have q := pivot8c blk len cap a' b' d1 w0 wc hs1 S1 hl12 hbl hsz
    have HS1 := Lib.hid hs1
    clear P1 S1 hs1
    go_upto_if 50 with (go_at_call 93; (with_reducible refine q.mono ?_); rintro e w1 ⟨pv, hh, rfl, hpa, hpb, hh2, S1⟩; have HS := Lib.hid S1; clear S1 q)
    go_cut [11, 12] from 49 to 60 (fun s11 s12 wx => ∃ (pv h : Nat) (d2 : Array UInt8), s11 = .int .i64 pv ∧ s12 = .int .i64 h ∧ a' ≤ pv ∧ pv < b' ∧ h ≤ 2 ∧ PermIn a' b' d1 d2 ∧ S8 w0 blk d2 wx)
    case first =>
      rcases (show hh = 2 ∨ hh ≤ 1 by omega) with rfl | hh1
      · have q := reverse8 blk len cap a' b' d1 w0 w1 HS1.out HS.out (by omega) (by have := HS1.out; omega) (by have := HS1.out; omega)
        have P2 := Lib.hid (reverseRange_holds d1 a' b' (by omega) (by have := HS1.out; omega))
        obtain ⟨pv2, hpv2⟩ : ∃ pv2, pv2 = (b' - 1) - (pv - a') := ⟨_, rfl⟩
        have e1 : (b' : Int) - 1 - ((pv : Int) - (a' : Int)) = (pv2 : Int) := by omega
        have hp2 : a' ≤ pv2 ∧ pv2 < b' := by omega
        clear hpv2
        go_wp2_with (go_at_call 94; (with_reducible refine q.mono ?_); rintro e w2 ⟨rfl, S2⟩; have HS2 := Lib.hid S2; clear S2 q)
        go_meet
        exact ⟨pv2, 1, _, rfl, rfl, hp2.1, hp2.2, by omega, P2.out, HS2.out⟩
      · have eh : ((hh : Int) == 2) = false := by rw [beq_eq_false_iff_ne]; omega
        have eh2 : ¬ (hh : Int) = 2 := by omega
        go_wp2
        go_meet
        exact ⟨pv, hh, d1, rfl, rfl, hpa, hpb, hh2, permIn_refl _ _ _, HS.out⟩
    clear HS
    obtain ⟨pv2, h2, d2, rfl, rfl, hpa2, hpb2, hh3, P2, S2⟩ := hcut
    have hs2 : d2.size = len := by rw [P2.1]; exact HS1.out
    have B2 := Lib.hid (B1.out.perm (by have := HS1.out; omega) P2)
    have HP2 := Lib.hid (permIn_trans _ _ _ a' b' HP1.out P2)
    have HS2 := Lib.hid hs2
    have SK2 := Lib.hid S2
    clear P2 hs2 S2 hpa hpb hh2 HP1 B1 HS1
    go_upto_region 15 with fail
    go_cut [68] from 61 to 68 (fun s68 wx => ∃ t : Bool, s68 = .bool t ∧ S8 w0 blk d2 wx)
    case first =>
      have eh : (h2 = 1 ∧ ((h2 : Int) == 1) = true) ∨ (¬ (h2 : Int) = 1 ∧ ((h2 : Int) == 1) = false) := by
        by_cases h : h2 = 1
        · exact .inl ⟨h, by rw [beq_iff_eq]; omega⟩
        · exact .inr ⟨by omega, by rw [beq_eq_false_iff_ne]; omega⟩
      cases wb <;> cases wp <;> rcases eh with ⟨rfl, eh⟩ | ⟨eh2, eh⟩
      all_goals
        go_wp2
        go_meet
        exact ⟨_, rfl, SK2.out⟩
    clear SK2
    obtain ⟨t68, rfl, S2⟩ := hcut
    have SK2 := Lib.hid S2
    clear S2
    go_upto_if 68 with fail
    go_cut [3] from 69 to 72 (fun s3 wx => s3 = .int .i64 lim' ∧ ∃ d3 : Array UInt8, PermIn a' b' d2 d3 ∧ S8 w0 blk d3 wx)
    case first =>
      cases t68
      · go_wp2
        go_meet
        exact ⟨rfl, d2, permIn_refl _ _ _, SK2.out⟩
      · have q := partial8c blk len cap a' b' d2 w0 wc HS2.out SK2.out (by omega) hbl hsz
        have h1 := partialInsertionSort_holds (lt := lt8) swo8 d2 a' b' (by omega) (by have := HS2.out; omega) B2.out
        have H1 := Lib.hid h1
        clear h1
        go_wp2_with fail
        (with_reducible refine q.mono ?_)
        rintro e w2 ⟨⟨d3, r⟩, hr, rfl, S2⟩
        have HS3 := Lib.hid S2
        have h1 := H1.out
        rw [hr] at h1
        have HRR := Lib.hid h1
        clear S2 hr q h1
        cases r
        · go_wp2
          go_meet
          exact ⟨rfl, d3, HRR.out.1, HS3.out⟩
        · have g := Lib.hid (AT.out.goal _ (permIn_trans _ _ _ a' b' HP2.out HRR.out.1) (HRR.out.2 rfl))
          go_wp2
          exact bodyPost_ret (v := .tuple #[]) (by simp [results, Try.results86, go_sem]) rfl ⟨_, rfl, g.out.1, g.out.2, HS3.out⟩
    clear SK2
    obtain ⟨rfl, d2, P3, S2⟩ := hcut
    have hsN := P3.1.trans HS2.out
    have BN := Lib.hid (B2.out.perm (by have := HS2.out; omega) P3)
    have HPN := Lib.hid (permIn_trans _ _ _ a' b' HP2.out P3)
    clear HS2 B2 HP2 P3
    have HS2 := Lib.hid hsN
    have B2 := BN
    have HP2 := HPN
    clear hsN BN HPN
    obtain ⟨G, hG⟩ : ∃ G : Nat → UInt8, ∀ t, G t = d2[t]! := ⟨fun t => d2[t]!, fun _ => rfl⟩
    have hcw : ∀ t, t < len → wc.cell? ⟨blk, t, none⟩ = some (.int .u8 ((G t).toNat : Int)) := fun t ht => by rw [hG]; exact S2.cells t (by have := HS2.out; omega)
    have SK2 := Lib.hid S2
    have HG := Lib.hid hG
    clear S2 hG
    have hpvl : pv2 < len := by omega
    obtain ⟨ap, hap⟩ : ∃ ap, ap = a' - 1 := ⟨_, rfl⟩
    have hapl : ap < len := by omega
    have hlim100 : lim' ≤ 100 := by omega
    obtain ⟨r, hr⟩ : ∃ r, lt8 (G ap) (G pv2) = r := ⟨_, rfl⟩
    have q := less8 (G ap) (G pv2)
    rw [hr] at q
    have HRR := Lib.hid (show lt8 d2[a' - 1]! d2[pv2]! = r by rw [← hap, ← HG.out, ← HG.out]; exact hr)
    have hcase : (0 < a' ∧ r = false) ∨ (0 < a' ∧ r = true) ∨ a' = 0 := by
      rcases Nat.eq_zero_or_pos a' with h | h
      · exact .inr (.inr h)
      · cases r
        · exact .inl ⟨h, rfl⟩
        · exact .inr (.inl ⟨h, rfl⟩)
    have ew : 0 < a' → IntKind.i64.wrap ((a' : Int) - 1) = (ap : Int) := fun h => by rw [IntKind.wrap_i64]; omega
    have EW := Lib.hid ew
    clear hr hap ew
    rcases hcase with ⟨ha0, rfl⟩ | hcase
    · -- the others are equal to what is ahead, or greater
      obtain ⟨⟨mid, d4⟩, hx⟩ : ∃ r, Sort.partitionEqual lt8 d2 a' b' pv2 = r := ⟨_, rfl⟩
      obtain ⟨m1, m2, m3, m4, m5⟩ := round_eq (lt := lt8) swo8 (partitionEqual_holds lt8) ha0 hpa2 hpb2 (by have := HS2.out; omega) B2.out HRR.out hx
      have q2 := fun W h => partEq8 blk len cap a' b' pv2 d2 w0 W HS2.out h hpa2 hpb2 (by have := HS2.out; omega) (by have := HS2.out; omega)
      rw [hx] at q2
      simp only at q2
      have HN : Hid (∀ W, S8 w0 blk d4 W → At8 w0 blk len a b d mid b' lim' d4 W) := Lib.hid (fun W hW => ⟨m2, hbl, by omega, hlim100, by rw [m3]; exact HS2.out, m4, hW, fun R h1 h2 => by
        obtain ⟨k1, k2⟩ := m5 R h1 h2
        exact AT.out.goal R (permIn_trans _ _ _ a' b' HP2.out k1) k2⟩)
      have ew1 := EW.out ha0
      have ha0' : decide (0 < a') = true := decide_eq_true (by omega)
      have Q2 := Lib.hid q2
      clear m3 m4 m5 hx q2
      go_wp2
      go_quiet (first | (go_at_call 96; refine Calls.quiet_of_same (q _)))
      have q3 := Q2.out _ (SK2.out.drewN nq)
      clear hcw q SK2
      generalize wc.drewN nq = w3 at q3 ⊢
      go_wp2_with (go_at_call 97; (with_reducible refine q3.mono ?_); rintro e w4 ⟨rfl, S4⟩; have HS4 := Lib.hid S4; clear S4 q3)
      go_roundw
      case rel => exact ⟨mid, b', lim', wb, wp, d4, rfl, rfl, rfl, rfl, rfl, HN.out _ HS4.out⟩
      case measure => simp [intOf]; omega
    · obtain ⟨⟨mid, apd, d4⟩, hx⟩ : ∃ r, Sort.partition lt8 d2 a' b' pv2 = r := ⟨_, rfl⟩
      obtain ⟨m1, m2, m3, m4, m5, m6, m7⟩ := round_part (lt := lt8) swo8 (partition_holds lt8) hpa2 hpb2 (by have := HS2.out; omega) B2.out hx
      have q2 := fun W h => part8 blk len cap a' b' pv2 d2 w0 W HS2.out h hpa2 hpb2 (by have := HS2.out; omega) (by have := HS2.out; omega)
      rw [hx] at q2
      simp only at q2
      have Q2 := Lib.hid q2
      have hs4 : d4.size = len := by rw [m3]; exact HS2.out
      have M4 := Lib.hid (And.intro hs4 (And.intro m4 (And.intro m5 (And.intro m6 m7))))
      obtain ⟨mp, hmp⟩ : ∃ mp, mp = mid + 1 := ⟨_, rfl⟩
      have ewm : (mid : Int) + 1 = (mp : Int) := by omega
      have HMP := Lib.hid hmp
      obtain ⟨ll, hll2⟩ : ∃ ll, ll = mid - a' := ⟨_, rfl⟩
      obtain ⟨rl, hrl⟩ : ∃ rl, rl = b' - mid := ⟨_, rfl⟩
      have e5 : (mid : Int) - (a' : Int) = (ll : Int) := by omega
      have e6 : (b' : Int) - (mid : Int) = (rl : Int) := by omega
      have HLR := Lib.hid (show ll = mid - a' ∧ rl = b' - mid from ⟨hll2, hrl⟩)
      have hl0 : (0 : Int) ≤ (l : Int) := by omega
      clear hx q2 m3 m4 m5 m6 m7 hs4 hll2 hrl hmp
      have hcase2 : (decide (0 < a') = true ∧ IntKind.i64.wrap ((a' : Int) - 1) = (ap : Int) ∧ r = true) ∨ decide (0 < a') = false := by
        rcases hcase with ⟨h1, h2⟩ | h1
        · exact .inl ⟨decide_eq_true (by omega), EW.out h1, h2⟩
        · exact .inr (decide_eq_false (by omega))
      clear hcase EW
      go_upto_region 17 with fail
      go_cut [87] from 73 to 87 (fun s87 wx => s87 = .bool false ∧ S8 w0 blk d2 wx)
      case first =>
        rcases hcase2 with ⟨hd, ew1, rfl⟩ | hd
        · go_quiet (first | (go_at_call 96; refine Calls.quiet_of_same (q _)))
          go_wp2
          go_meet
          exact ⟨rfl, SK2.out.drewN nq⟩
        · go_quiet (fail)
          go_wp2
          go_meet
          exact ⟨rfl, SK2.out.drewN nq⟩
      clear q hcw SK2 hcase2
      obtain ⟨rfl, S3⟩ := hcut
      have q3 := Q2.out _ S3
      clear S3
      have IHL := fun W h => IH'.out a' mid lim' d4 W (by omega) M4.out.1 h m1 (by omega) (by omega) hlim100 M4.out.2.1
      have IHR := fun W h => IH'.out mp b' lim' d4 W (by have := HMP.out; omega) M4.out.1 h (by have := HMP.out; omega) hbl (by have := HMP.out; omega) hlim100 (by rw [HMP.out]; exact M4.out.2.2.1)
      have HIL := Lib.hid IHL
      have HIR := Lib.hid IHR
      clear IHL IHR
      by_cases hlr : ll < rl
      · go_wp2_with (first
          | (go_at_call 98; (with_reducible refine q3.mono ?_); rintro e w4 ⟨rfl, S4⟩; have q4 := HIL.out _ S4; clear S4 q3)
          | (go_at_call 86; (with_reducible refine q4.mono ?_); rintro e w5 ⟨d5, rfl, P5, O5, S5⟩; have H5 := Lib.hid (And.intro P5 (And.intro O5 S5)); clear P5 O5 S5 q4))
        go_roundw
        case rel =>
          obtain ⟨P5, O5, S5⟩ := H5.out
          obtain ⟨B5, F5⟩ := M4.out.2.2.2.1 d5 P5 O5
          rw [← HMP.out] at B5 F5
          exact ⟨mp, b', lim', _, _, d5, rfl, rfl, rfl, rfl, rfl, ⟨by have := HMP.out; omega, hbl, by have := HMP.out; omega, hlim100, by rw [P5.1]; exact M4.out.1, B5, S5, fun R h1 h2 => by
            obtain ⟨k1, k2⟩ := F5 R h1 h2
            exact AT.out.goal R (permIn_trans _ _ _ a' b' HP2.out k1) k2⟩⟩
        case measure => simp [intOf]; omega
      · go_wp2_with (first
          | (go_at_call 98; (with_reducible refine q3.mono ?_); rintro e w4 ⟨rfl, S4⟩; have q4 := HIR.out _ S4; clear S4 q3)
          | (go_at_call 86; (with_reducible refine q4.mono ?_); rintro e w5 ⟨d5, rfl, P5, O5, S5⟩; have H5 := Lib.hid (And.intro P5 (And.intro O5 S5)); clear P5 O5 S5 q4))
        go_roundw
        case rel =>
          obtain ⟨P5, O5, S5⟩ := H5.out
          rw [HMP.out] at P5 O5
          obtain ⟨B5, F5⟩ := M4.out.2.2.2.2 d5 P5 O5
          exact ⟨a', mid, lim', _, _, d5, rfl, rfl, rfl, rfl, rfl, ⟨m1, by omega, by omega, hlim100, by rw [P5.1]; exact M4.out.1, B5, S5, fun R h1 h2 => by
            obtain ⟨k1, k2⟩ := F5 R h1 h2
            exact AT.out.goal R (permIn_trans _ _ _ a' b' HP2.out k1) k2⟩⟩
        case measure => simp [intOf]; omega

theorem pdq8 (blk len cap : Nat) (w0 : World) (hsz : len < 4611686018427387904) : ∀ (n a b limit : Nat) (d : Array UInt8) (w : World), b - a ≤ n → d.size = len → S8 w0 blk d w → a ≤ b → b ≤ len → b < a + 1000 → limit ≤ 100 → Sort.Below lt8 a b d →
    Calls Try.prog 86 #[.slice (some ⟨blk, 0, none⟩) len cap, .int .i64 a, .int .i64 b, .int .i64 limit] w fun e w' => ∃ d', Done8 w0 blk a b d d' e w' := by
  intro n
  induction n with
  | zero =>
    intro a b limit d w h h1 h2 h3 h4 h5 h6 h7
    exact pdq8_of blk len cap w0 hsz 0 (fun _ _ _ _ _ h => by omega) a b limit d w (by omega) h1 h2 h3 h4 h5 h6 h7
  | succ n ih =>
    intro a b limit d w h h1 h2 h3 h4 h5 h6 h7
    exact pdq8_of blk len cap w0 hsz (b - a) (fun a b limit d w h => ih a b limit d w (by omega)) a b limit d w rfl h1 h2 h3 h4 h5 h6 h7
end Go.Proofs.Ythgdanbkngnckaa

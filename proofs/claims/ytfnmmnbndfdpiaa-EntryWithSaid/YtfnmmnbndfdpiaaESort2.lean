/-
  The library's stable sort at elements of k cells: two sorted neighbouring parts of a row made one.
-/
import Derived.Test.YtfnmmnbndfdpiaaESort1
namespace Go.Proofs.Ytfnmmnbndfdpiaa
open Go.RowKit Go.Sort Go.Lib Go.Shelf

section
variable {P : Program} {α : Type} [Inhabited α] {κ : Type} [DecidableEq κ]

/-- What a merge leaves. -/
def MergeEnd (cf : α → α → Int) (key : α → κ) (enc : α → List Value) (k : Nat) (w0 : World) (blk off a b : Nat) (d : Array α) (e : Ending) (w' : World) : Prop :=
  e = .returned (.tuple #[]) ∧ ∃ d' : Array α, SortedIn (ltOf cf) a b d' ∧ Merged key a b d d' ∧ SWK enc k w0 blk off d' w'

set_option maxHeartbeats 4000000 in
set_option maxRecDepth 1000000 in
theorem symMerge_left {k : Nat} (L : SortP P k) (enc : α → List Value) (cf : α → α → Int) (hO : SWO (ltOf cf)) (key : α → κ) (hkey : ∀ x y, ltOf cf x y = true → key x ≠ key y) (g : Nat) (cb : Array Value) (eg : ∀ args w, (callFunc g args).run P w = .ok (.enter g args) w) (blk off cap a m b : Nat) (d0 d : Array α) (w0 w : World)
    (hcmp : CmpLays P g cb enc k cf blk off d0.size w0) (R : RowK enc k w0 blk off d0) (hs : d0.size = d.size) (S : SWK enc k w0 blk off d w) (hm : m = a + 1) (hmb : m < b) (hb : b ≤ d.size) (hsz : d.size < 4611686018427387904) (s2 : SortedIn (ltOf cf) m b d) :
    Calls P 79 #[.slice (some ⟨blk, off, none⟩) d.size cap, .int .i64 a, .int .i64 m, .int .i64 b, .func (.func g) #[] cb] w (MergeEnd cf key enc k w0 blk off a b d) := by
  have mixed := L.mixed; have t3 := L.t3; have a3 := L.a3; have z3 := L.z3; have v3 := L.v3; have t4 := L.t4; have a4 := L.a4; have z4 := L.z4; have v4 := L.v4; have t37 := L.t37; have a37 := L.a37; have z37 := L.z37; have v37 := L.v37; have a96 := L.a96; have z96 := L.z96; have aE := L.aE; have zE := L.zE
  have t71 := L.t71; have a71 := L.a71; have z71 := L.z71; have v71 := L.v71
  have u37 := run_underlying L.t37
  have u3 := run_underlying L.t3
  have u71 := run_underlying L.t71
  have HC : Aside _ := hcmp
  have S0 : Aside (SWK enc k w0 blk off d w) := S
  have HS2 := Lib.hid s2
  have HKEY := Lib.hid hkey
  have HM := Lib.hid hm
  have e1 : (m : Int) - (a : Int) = 1 := by omega
  have ham : a < m := by omega
  clear S hcmp s2 hkey hm
  go_enter L.f79, Try.ntmps79
  go_wp2
  go_loopg [10, 11] (b - m) (fun kx s10 s11 wr => ∃ i j : Nat, s10 = .int .i64 i ∧ s11 = .int .i64 j ∧ m ≤ i ∧ i ≤ j ∧ j ≤ b ∧ j - i ≤ kx ∧ Aside (SWK enc k w0 blk off d wr) ∧ Hid ((m < i → ltOf cf d[i - 1]! d[a]! = true) ∧ (j < b → ltOf cf d[j]! d[a]! = false)))
  case atStart => exact ⟨m, b, rfl, rfl, Nat.le_refl _, by omega, Nat.le_refl _, by omega, S0, Lib.hid ⟨fun h => absurd h (Nat.lt_irrefl _), fun h => absurd h (Nat.lt_irrefl _)⟩⟩
  case round =>
    clear S0
    obtain ⟨i, j, rfl, rfl, hmi, hij, hjb, hkx, S1, HI⟩ := hrel
    by_cases hlt : i < j
    · obtain ⟨h, hh⟩ : ∃ h, h = (i + j) / 2 := ⟨_, rfl⟩
      have eh2 : ((i : Int) + (j : Int)) / 2 = (h : Int) := by omega
      have hih : i ≤ h := by omega
      have hhj : h < j := by omega
      have hha : a < h := by omega
      clear hh
      have ph : (0 : Int) ≤ (h : Int) := by omega
      have eh : ((h : Int)).toNat = h := by omega
      have bh : (h : Int) < (d.size : Int) := by omega
      have rh : IntKind.i64.wrap ((h : Int)) = (h : Int) := by rw [IntKind.wrap_i64]; omega
      have pa : (0 : Int) ≤ (a : Int) := by omega
      have ea : ((a : Int)).toNat = a := by omega
      have ba : (a : Int) < (d.size : Int) := by omega
      have ra : IntKind.i64.wrap ((a : Int)) = (a : Int) := by rw [IntKind.wrap_i64]; omega
      obtain ⟨xx, hxx⟩ : ∃ z, z = d[h]! := ⟨_, rfl⟩
      obtain ⟨yy, hyy⟩ : ∃ z, z = d[a]! := ⟨_, rfl⟩
      have lx := S1.out.ld R (by omega) P h (by omega)
      have ly := S1.out.ld R (by omega) P a (by omega)
      rw [← hxx] at lx
      rw [← hyy] at ly
      have hc := S1.out.cmp HC.out (by omega) xx yy
      have HXY := Lib.hid (show xx = d[h]! ∧ yy = d[a]! from ⟨hxx, hyy⟩)
      clear hxx hyy
      by_cases hlv : cf xx yy < 0
      · have hd : decide (cf xx yy < 0) = true := decide_eq_true hlv
        go_wp2_with fail
        go_quiet_grown (first | (go_at_fn g; refine Calls.grown_of (hc _ _)))
        have S2 : Aside _ := S1.out.grown nq osq
        clear lx ly hc S1
        generalize grow (wr.drewN nq) osq = w2 at S2 ⊢
        clear nq osq
        go_wp2
        go_roundg (j - (h + 1))
        case measure => omega
        case rel => exact ⟨h + 1, j, by go_num, rfl, by omega, by omega, hjb, Nat.le_refl _, S2, Lib.hid ⟨fun _ => by rw [Nat.add_sub_cancel, ← HXY.out.1, ← HXY.out.2]; exact decide_eq_true hlv, HI.out.2⟩⟩
      · have hd : decide (cf xx yy < 0) = false := decide_eq_false hlv
        go_wp2_with fail
        go_quiet_grown (first | (go_at_fn g; refine Calls.grown_of (hc _ _)))
        have S2 : Aside _ := S1.out.grown nq osq
        clear lx ly hc S1
        generalize grow (wr.drewN nq) osq = w2 at S2 ⊢
        clear nq osq
        go_wp2
        go_roundg (h - i)
        case measure => omega
        case rel => exact ⟨i, h, rfl, rfl, hmi, hih, by omega, Nat.le_refl _, S2, Lib.hid ⟨HI.out.1, fun _ => by rw [← HXY.out.1, ← HXY.out.2]; exact decide_eq_false (by omega)⟩⟩
    · obtain rfl : i = j := by omega
      go_wp2
      go_loopg [13] (i - 1 - a) (fun kx s13 wr => ∃ (q : Nat) (dk : Array α), s13 = .int .i64 q ∧ a ≤ q ∧ q + 1 ≤ i ∧ i - 1 - q ≤ kx ∧ dk.size = d.size ∧ Aside (SWK enc k w0 blk off dk wr) ∧ Hid (∀ x, dk[x]! = rotF (fun x => d[x]!) a (a + 1) (q + 1) x))
      case atStart => exact ⟨a, d, rfl, Nat.le_refl _, by omega, by omega, rfl, S1, Lib.hid (fun x => by rw [rotF_none2 _ _ _ (by omega)])⟩
      case round =>
        clear S1
        obtain ⟨q, dk, rfl, haq, hqi, hkx2, hds, S1, HF⟩ := hrel
        by_cases hq : q + 1 < i
        · have HN := Lib.hid (rot_up (fun x => d[x]!) dk a q HF.out haq (by omega))
          obtain ⟨t, ht⟩ : ∃ t, t = q + 1 := ⟨_, rfl⟩
          have et1 : (q : Int) + 1 = (t : Int) := by omega
          have hqz : (q : Int) < (i : Int) - 1 := by omega
          rw [← ht] at HN
          have hti : t < i := by omega
          have HT := Lib.hid ht
          clear ht
          have pq : (0 : Int) ≤ (q : Int) := by omega
          have eq : ((q : Int)).toNat = q := by omega
          have bq : (q : Int) < (d.size : Int) := by omega
          have rq : IntKind.i64.wrap ((q : Int)) = (q : Int) := by rw [IntKind.wrap_i64]; omega
          have pt : (0 : Int) ≤ (t : Int) := by omega
          have et : ((t : Int)).toNat = t := by omega
          have bt : (t : Int) < (d.size : Int) := by omega
          have rt : IntKind.i64.wrap ((t : Int)) = (t : Int) := by rw [IntKind.wrap_i64]; omega
          have rt1 : IntKind.i64.wrap ((q : Int) + 1) = (t : Int) := by rw [IntKind.wrap_i64]; omega
          clear et1
          have htd : t < dk.size := by omega
          have hqd : q < dk.size := by omega
          have S2 : Aside (SWK enc k w0 blk off (swp dk q t) ((wr.drew.setCells blk (off + q * k) (enc dk[t]!)).setCells blk (off + t * k) (enc dk[q]!))) := S1.out.swapped R q t (by omega) (by omega)
          have la := S1.out.ld1 R (by omega) P q (by omega)
          have lb := S1.out.ld1 R (by omega) P t (by omega)
          have sa := S1.out.st1 R (by omega) P q (by omega) dk[t]!
          have sb := S1.out.st2 R (by omega) P q t (by omega) (by omega) dk[t]! dk[q]!
          have na : (enc dk[q]!).length = k := R.hk _
          have nb : (enc dk[t]!).length = k := R.hk _
          generalize enc dk[q]! = cI at S2 la sb na
          generalize enc dk[t]! = cJ at S2 lb sa sb nb
          clear S1
          go_wp2_with fail
          go_big_region_o
          clear la lb sa sb
          generalize (wr.drew.setCells blk (off + q * k) cJ).setCells blk (off + t * k) cI = w2 at S2 ⊢
          go_wp2
          have et1 : (q : Int) + 1 = (t : Int) := by have := HT.out; omega
          go_roundg (i - 1 - (q + 1))
          case measure => have := HT.out; omega
          case rel => exact ⟨q + 1, swp dk q t, by go_num, by omega, by omega, Nat.le_refl _, by rw [size_swp]; exact hds, S2, Lib.hid (fun x => HN.out x)⟩
        · obtain rfl : i = q + 1 := by omega
          have hqz : ¬ (q : Int) < ((q + 1 : Nat) : Int) - 1 := by omega
          go_wp2
          go_end0
          have hm := HM.out
          subst hm
          have := insert_left hO key HKEY.out d dk a b (q + 1) (by omega) hjb hb hds HF.out HS2.out HI.out.1 HI.out.2
          exact ⟨rfl, dk, this.1, this.2, S1.out⟩

set_option maxHeartbeats 4000000 in
set_option maxRecDepth 1000000 in
theorem symMerge_right {k : Nat} (L : SortP P k) (enc : α → List Value) (cf : α → α → Int) (hO : SWO (ltOf cf)) (key : α → κ) (hkey : ∀ x y, ltOf cf x y = true → key x ≠ key y) (g : Nat) (cb : Array Value) (eg : ∀ args w, (callFunc g args).run P w = .ok (.enter g args) w) (blk off cap a m b : Nat) (d0 d : Array α) (w0 w : World)
    (hcmp : CmpLays P g cb enc k cf blk off d0.size w0) (R : RowK enc k w0 blk off d0) (hs : d0.size = d.size) (S : SWK enc k w0 blk off d w) (ham : a + 1 < m) (hm : b = m + 1) (hb : b ≤ d.size) (hsz : d.size < 4611686018427387904) (s1 : SortedIn (ltOf cf) a m d) :
    Calls P 79 #[.slice (some ⟨blk, off, none⟩) d.size cap, .int .i64 a, .int .i64 m, .int .i64 b, .func (.func g) #[] cb] w (MergeEnd cf key enc k w0 blk off a b d) := by
  have mixed := L.mixed; have t3 := L.t3; have a3 := L.a3; have z3 := L.z3; have v3 := L.v3; have t4 := L.t4; have a4 := L.a4; have z4 := L.z4; have v4 := L.v4; have t37 := L.t37; have a37 := L.a37; have z37 := L.z37; have v37 := L.v37; have a96 := L.a96; have z96 := L.z96; have aE := L.aE; have zE := L.zE
  have t71 := L.t71; have a71 := L.a71; have z71 := L.z71; have v71 := L.v71
  have u37 := run_underlying L.t37
  have u3 := run_underlying L.t3
  have u71 := run_underlying L.t71
  have HC : Aside _ := hcmp
  have S0 : Aside (SWK enc k w0 blk off d w) := S
  have HS1 := Lib.hid s1
  have HKEY := Lib.hid hkey
  have HM := Lib.hid hm
  have c1 : ((m : Int) - (a : Int) == 1) = false := by rw [beq_eq_false_iff_ne]; omega
  have e1 : (b : Int) - (m : Int) = 1 := by omega
  have hmb : m < b := by omega
  have hbm : b ≤ m + 1 := by omega
  clear S hcmp s1 hkey hm
  go_enter L.f79, Try.ntmps79
  go_wp2
  go_loopg [14, 15] (m - a) (fun kx s14 s15 wr => ∃ i j : Nat, s14 = .int .i64 i ∧ s15 = .int .i64 j ∧ a ≤ i ∧ i ≤ j ∧ j ≤ m ∧ j - i ≤ kx ∧ Aside (SWK enc k w0 blk off d wr) ∧ Hid ((a < i → ltOf cf d[m]! d[i - 1]! = false) ∧ (j < m → ltOf cf d[m]! d[j]! = true)))
  case atStart => exact ⟨a, m, rfl, rfl, Nat.le_refl _, by omega, Nat.le_refl _, by omega, S0, Lib.hid ⟨fun h => absurd h (Nat.lt_irrefl _), fun h => absurd h (Nat.lt_irrefl _)⟩⟩
  case round =>
    clear S0
    obtain ⟨i, j, rfl, rfl, hai, hij, hjm, hkx, S1, HI⟩ := hrel
    by_cases hlt : i < j
    · obtain ⟨h, hh⟩ : ∃ h, h = (i + j) / 2 := ⟨_, rfl⟩
      have eh2 : ((i : Int) + (j : Int)) / 2 = (h : Int) := by omega
      have hih : i ≤ h := by omega
      have hhj : h < j := by omega
      clear hh
      have ph : (0 : Int) ≤ (h : Int) := by omega
      have eh : ((h : Int)).toNat = h := by omega
      have bh : (h : Int) < (d.size : Int) := by omega
      have rh : IntKind.i64.wrap ((h : Int)) = (h : Int) := by rw [IntKind.wrap_i64]; omega
      have pm : (0 : Int) ≤ (m : Int) := by omega
      have em : ((m : Int)).toNat = m := by omega
      have bm : (m : Int) < (d.size : Int) := by omega
      have rm : IntKind.i64.wrap ((m : Int)) = (m : Int) := by rw [IntKind.wrap_i64]; omega
      obtain ⟨xx, hxx⟩ : ∃ z, z = d[m]! := ⟨_, rfl⟩
      obtain ⟨yy, hyy⟩ : ∃ z, z = d[h]! := ⟨_, rfl⟩
      have lx := S1.out.ld R (by omega) P m (by omega)
      have ly := S1.out.ld R (by omega) P h (by omega)
      rw [← hxx] at lx
      rw [← hyy] at ly
      have hc := S1.out.cmp HC.out (by omega) xx yy
      have HXY := Lib.hid (show xx = d[m]! ∧ yy = d[h]! from ⟨hxx, hyy⟩)
      clear hxx hyy
      by_cases hlv : cf xx yy < 0
      · have hd : decide (cf xx yy < 0) = true := decide_eq_true hlv
        go_wp2_with fail
        go_quiet_grown (first | (go_at_fn g; refine Calls.grown_of (hc _ _)))
        have S2 : Aside _ := S1.out.grown nq osq
        clear lx ly hc S1
        generalize grow (wr.drewN nq) osq = w2 at S2 ⊢
        clear nq osq
        go_wp2
        go_roundg (h - i)
        case measure => omega
        case rel => exact ⟨i, h, rfl, rfl, hai, hih, by omega, Nat.le_refl _, S2, Lib.hid ⟨HI.out.1, fun _ => by rw [← HXY.out.1, ← HXY.out.2]; exact decide_eq_true hlv⟩⟩
      · have hd : decide (cf xx yy < 0) = false := decide_eq_false hlv
        go_wp2_with fail
        go_quiet_grown (first | (go_at_fn g; refine Calls.grown_of (hc _ _)))
        have S2 : Aside _ := S1.out.grown nq osq
        clear lx ly hc S1
        generalize grow (wr.drewN nq) osq = w2 at S2 ⊢
        clear nq osq
        go_wp2
        go_roundg (j - (h + 1))
        case measure => omega
        case rel => exact ⟨h + 1, j, by go_num, rfl, by omega, by omega, hjm, Nat.le_refl _, S2, Lib.hid ⟨fun _ => by rw [Nat.add_sub_cancel, ← HXY.out.1, ← HXY.out.2]; exact decide_eq_false (by omega), HI.out.2⟩⟩
    · obtain rfl : i = j := by omega
      go_wp2
      go_loopg [17] (m - i) (fun kx s17 wr => ∃ (q : Nat) (dk : Array α), s17 = .int .i64 q ∧ i ≤ q ∧ q ≤ m ∧ q - i ≤ kx ∧ dk.size = d.size ∧ Aside (SWK enc k w0 blk off dk wr) ∧ Hid (∀ x, dk[x]! = rotF (fun x => d[x]!) q m (m + 1) x))
      case atStart => exact ⟨m, d, rfl, by omega, Nat.le_refl _, by omega, rfl, S1, Lib.hid (fun x => by rw [rotF_none])⟩
      case round =>
        clear S1
        obtain ⟨q, dk, rfl, hiq, hqm, hkx2, hds, S1, HF⟩ := hrel
        by_cases hq : i < q
        · obtain ⟨t, ht⟩ : ∃ t, q = t + 1 := ⟨q - 1, by omega⟩
          have HN := Lib.hid (rot_down (fun x => d[x]!) dk m t (by rw [← ht]; exact HF.out) (by omega) (by omega))
          have et1 : (q : Int) - 1 = (t : Int) := by omega
          rw [← ht] at HN
          have htq : t < q := by omega
          have hit : i ≤ t := by omega
          have HT := Lib.hid ht
          clear ht
          have pq : (0 : Int) ≤ (q : Int) := by omega
          have eq : ((q : Int)).toNat = q := by omega
          have bq : (q : Int) < (d.size : Int) := by omega
          have rq : IntKind.i64.wrap ((q : Int)) = (q : Int) := by rw [IntKind.wrap_i64]; omega
          have pt : (0 : Int) ≤ (t : Int) := by omega
          have et : ((t : Int)).toNat = t := by omega
          have bt : (t : Int) < (d.size : Int) := by omega
          have rt : IntKind.i64.wrap ((t : Int)) = (t : Int) := by rw [IntKind.wrap_i64]; omega
          have rt1 : IntKind.i64.wrap ((q : Int) - 1) = (t : Int) := by rw [IntKind.wrap_i64]; omega
          clear et1
          have htd : t < dk.size := by omega
          have hqd : q < dk.size := by omega
          have S2 : Aside (SWK enc k w0 blk off (swp dk q t) ((wr.drew.setCells blk (off + q * k) (enc dk[t]!)).setCells blk (off + t * k) (enc dk[q]!))) := S1.out.swapped R q t (by omega) (by omega)
          have la := S1.out.ld1 R (by omega) P q (by omega)
          have lb := S1.out.ld1 R (by omega) P t (by omega)
          have sa := S1.out.st1 R (by omega) P q (by omega) dk[t]!
          have sb := S1.out.st2 R (by omega) P q t (by omega) (by omega) dk[t]! dk[q]!
          have na : (enc dk[q]!).length = k := R.hk _
          have nb : (enc dk[t]!).length = k := R.hk _
          generalize enc dk[q]! = cI at S2 la sb na
          generalize enc dk[t]! = cJ at S2 lb sa sb nb
          clear S1
          go_wp2_with fail
          go_big_region_o
          clear la lb sa sb
          generalize (wr.drew.setCells blk (off + q * k) cJ).setCells blk (off + t * k) cI = w2 at S2 ⊢
          go_wp2
          have et1 : (q : Int) - 1 = (t : Int) := by have := HT.out; omega
          go_roundg (t - i)
          case measure => have := HT.out; omega
          case rel => exact ⟨t, swp dk q t, rfl, hit, by omega, Nat.le_refl _, by rw [size_swp]; exact hds, S2, HN⟩
        · obtain rfl : i = q := by omega
          go_wp2
          go_end0
          have hm := HM.out
          subst hm
          have := insert_right hO key HKEY.out d dk a m i hai hqm hb hds HF.out HS1.out HI.out.1 HI.out.2
          exact ⟨rfl, dk, this.1, this.2, S1.out⟩
end
end Go.Proofs.Ytfnmmnbndfdpiaa

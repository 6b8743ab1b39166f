/-
  The library's stable sort at elements of k cells: two sorted neighbouring parts of a row made one, by parts.
-/
import Derived.Test.YtfnmmnbndfdpiaaESort2
import Derived.Deep.DeepCutAuto
namespace Go.Proofs.Ytfnmmnbndfdpiaa
open Go.RowKit Go.Sort Go.Lib Go.Shelf

section
variable {P : Program} {α : Type} [Inhabited α] {κ : Type} [DecidableEq κ]

/-- Where the merge looks, and what it finds there. -/
theorem sym_range (a m b mid lo hi : Nat) (ham : a + 1 < m) (hmb : m + 1 < b) (hmid : mid = (a + b) / 2) (hlo : symLo a m b mid = lo) (hhi : symHi m mid = hi) :
    a < mid ∧ mid < b ∧ lo ≤ hi ∧ mid + m ≤ b + lo ∧ hi + 1 ≤ mid + m ∧ hi ≤ m ∧ hi ≤ mid ∧ a ≤ lo := by
  unfold symLo at hlo; unfold symHi at hhi
  by_cases c : mid < m
  · rw [if_pos c] at hlo hhi; omega
  · rw [if_neg c] at hlo hhi; omega

set_option maxHeartbeats 16000000 in
set_option maxRecDepth 1000000 in
theorem symMerge_step {k : Nat} (L : SortP P k) (enc : α → List Value) (cf : α → α → Int) (hO : SWO (ltOf cf)) (key : α → κ) (hkey : ∀ x y, ltOf cf x y = true → key x ≠ key y) (g : Nat) (cb : Array Value) (eg : ∀ args w, (callFunc g args).run P w = .ok (.enter g args) w) (blk off cap a m b : Nat) (d0 d : Array α) (w0 w : World)
    (hcmp : CmpLays P g cb enc k cf blk off d0.size w0) (R : RowK enc k w0 blk off d0) (hs : d0.size = d.size) (S : SWK enc k w0 blk off d w) (ham : a + 1 < m) (hmb : m + 1 < b) (hb : b ≤ d.size) (hsz : d.size < 4611686018427387904) (s1 : SortedIn (ltOf cf) a m d) (s2 : SortedIn (ltOf cf) m b d)
    (ih : ∀ (a' m' b' : Nat) (d' : Array α) (w' : World), a' < m' → m' < b' → b' - a' < b - a → b' ≤ d.size → d'.size = d.size → SWK enc k w0 blk off d' w' → SortedIn (ltOf cf) a' m' d' → SortedIn (ltOf cf) m' b' d' →
      Calls P 79 #[.slice (some ⟨blk, off, none⟩) d.size cap, .int .i64 a', .int .i64 m', .int .i64 b', .func (.func g) #[] cb] w' (MergeEnd cf key enc k w0 blk off a' b' d')) :
    Calls P 79 #[.slice (some ⟨blk, off, none⟩) d.size cap, .int .i64 a, .int .i64 m, .int .i64 b, .func (.func g) #[] cb] w (MergeEnd cf key enc k w0 blk off a b d) := by
  have mixed := L.mixed; have t3 := L.t3; have a3 := L.a3; have z3 := L.z3; have v3 := L.v3; have t4 := L.t4; have a4 := L.a4; have z4 := L.z4; have v4 := L.v4; have t37 := L.t37; have a37 := L.a37; have z37 := L.z37; have v37 := L.v37; have a96 := L.a96; have z96 := L.z96; have aE := L.aE; have zE := L.zE
  have t71 := L.t71; have a71 := L.a71; have z71 := L.z71; have v71 := L.v71
  have u37 := run_underlying L.t37
  have u3 := run_underlying L.t3
  have u71 := run_underlying L.t71
  have e80 : ∀ args w, (callFunc 80 args).run P w = .ok (.enter 80 args) w := enters_of L.f80 (by kernel_rfl) rfl
  have e79 : ∀ args w, (callFunc 79 args).run P w = .ok (.enter 79 args) w := enters_of L.f79 (by kernel_rfl) rfl
  have HC : Aside _ := hcmp
  have S0 : Aside (SWK enc k w0 blk off d w) := S
  have HS1 := Lib.hid s1
  have HS2 := Lib.hid s2
  have HKEY := Lib.hid hkey
  have IH := Lib.hid ih
  have c1 : ((m : Int) - (a : Int) == 1) = false := by rw [beq_eq_false_iff_ne]; omega
  have c2 : ((b : Int) - (m : Int) == 1) = false := by rw [beq_eq_false_iff_ne]; omega
  obtain ⟨mid, hmid⟩ : ∃ mid, mid = (a + b) / 2 := ⟨_, rfl⟩
  obtain ⟨lo, hlo⟩ : ∃ lo, symLo a m b mid = lo := ⟨_, rfl⟩
  obtain ⟨hi, hhi⟩ : ∃ hi, symHi m mid = hi := ⟨_, rfl⟩
  obtain ⟨g1, g2, g3, g4, g5, g6, g7, g8⟩ := sym_range a m b mid lo hi ham hmb hmid hlo hhi
  obtain ⟨nn, hnn⟩ : ∃ nn, nn = mid + m := ⟨_, rfl⟩
  obtain ⟨p, hp⟩ : ∃ p, nn = p + 1 := ⟨mid + m - 1, by omega⟩
  have em : ((a : Int) + (b : Int)) / 2 = (mid : Int) := by omega
  have en1 : (mid : Int) + (m : Int) = (nn : Int) := by omega
  have ep : (nn : Int) - 1 = (p : Int) := by omega
  have hnb : nn ≤ b + lo := by omega
  have hpn : p + 1 = mid + m := by omega
  have hhp : hi ≤ p := by omega
  have HMID := Lib.hid hmid
  have HLO := Lib.hid hlo
  have HHI := Lib.hid hhi
  have HNN := Lib.hid hnn
  have HP := Lib.hid hp
  have HPN := Lib.hid hpn
  have HG5 := Lib.hid g5
  clear S hcmp s1 s2 hkey ih hmid hnn hp hpn g4 g5
  by_cases hmm : mid < m
  · have el : (nn : Int) - (b : Int) = (lo : Int) := by have := HNN.out; have h := hlo; unfold symLo at h; rw [if_pos hmm] at h; omega
    have eh : mid = hi := by have h := hhi; unfold symHi at h; rw [if_pos hmm] at h; exact h
    have HR : Hid (∀ st, st ≤ hi → ¬ st < m → False) := Lib.hid (fun st h1 h2 => by omega)
    have HEH := Lib.hid eh
    clear hlo hhi eh
    go_enter L.f79, Try.ntmps79
    go_wp2
    go_loopg [20, 21] (hi - lo) (fun kx s20 s21 wr => ∃ i j : Nat, s20 = .int .i64 i ∧ s21 = .int .i64 j ∧ lo ≤ i ∧ i ≤ j ∧ j ≤ hi ∧ j - i ≤ kx ∧ Aside (SWK enc k w0 blk off d wr) ∧ Hid ((j < hi → ltOf cf d[p - j]! d[j]! = true) ∧ (lo < i → ltOf cf d[p + 1 - i]! d[i - 1]! = false)))
    case atStart => exact ⟨lo, hi, rfl, by rw [HEH.out], Nat.le_refl _, g3, Nat.le_refl _, Nat.le_refl _, S0, Lib.hid ⟨fun h => absurd h (Nat.lt_irrefl _), fun h => absurd h (Nat.lt_irrefl _)⟩⟩
    case round =>
      clear S0 em en1 ep el
      obtain ⟨i, j, rfl, rfl, hli, hij, hjh, hkx, S1, HI⟩ := hrel
      by_cases hlt : i < j
      · obtain ⟨c, hc0⟩ : ∃ c, c = (i + j) / 2 := ⟨_, rfl⟩
        have ec2 : ((i : Int) + (j : Int)) / 2 = (c : Int) := by omega
        have hic : i ≤ c := by omega
        have hcj : c < j := by omega
        obtain ⟨zz, hpc⟩ : ∃ zz, zz = p - c := ⟨_, rfl⟩
        have hcp : c ≤ p := by omega
        have epc : IntKind.i64.wrap ((p : Int) - (c : Int)) = (zz : Int) := by rw [IntKind.wrap_i64]; have := HP.out; omega
        have hzzb : zz < d.size := by have := HP.out; omega
        have HPC := Lib.hid hpc
        clear hc0 hpc
        have pc : (0 : Int) ≤ (c : Int) := by omega
        have ec : ((c : Int)).toNat = c := by omega
        have bc : (c : Int) < (d.size : Int) := by omega
        have rc : IntKind.i64.wrap ((c : Int)) = (c : Int) := by rw [IntKind.wrap_i64]; omega
        have pzz : (0 : Int) ≤ (zz : Int) := by omega
        have ezz : ((zz : Int)).toNat = zz := by omega
        have bzz : (zz : Int) < (d.size : Int) := by omega
        have rzz : IntKind.i64.wrap ((zz : Int)) = (zz : Int) := by rw [IntKind.wrap_i64]; omega
        obtain ⟨xx, hxx⟩ : ∃ z, z = d[zz]! := ⟨_, rfl⟩
        obtain ⟨yy, hyy⟩ : ∃ z, z = d[c]! := ⟨_, rfl⟩
        have lx := S1.out.ld R (by omega) P zz (by omega)
        have ly := S1.out.ld R (by omega) P c (by omega)
        rw [← hxx] at lx
        rw [← hyy] at ly
        have hc := S1.out.cmp HC.out (by omega) xx yy
        have HXY := Lib.hid (show xx = d[zz]! ∧ yy = d[c]! from ⟨hxx, hyy⟩)
        clear hxx hyy
        by_cases hlv : cf xx yy < 0
        · have hd : decide (cf xx yy < 0) = true := decide_eq_true hlv
          go_wp2_with fail
          go_quiet_grown (first | (go_at_fn g; refine Calls.grown_of (hc _ _)))
          have S2 : Aside _ := S1.out.grown nq osq
          clear lx ly hc S1
          generalize grow (wr.drewN nq) osq = w2 at S2 ⊢
          clear nq osq
          go_wp2
          go_roundg (c - i)
          case measure => omega
          case rel => exact ⟨i, c, rfl, rfl, hli, hic, by omega, Nat.le_refl _, S2, Lib.hid ⟨fun _ => by rw [← HPC.out, ← HXY.out.1, ← HXY.out.2]; exact decide_eq_true hlv, HI.out.2⟩⟩
        · have hd : decide (cf xx yy < 0) = false := decide_eq_false hlv
          go_wp2_with fail
          go_quiet_grown (first | (go_at_fn g; refine Calls.grown_of (hc _ _)))
          have S2 : Aside _ := S1.out.grown nq osq
          clear lx ly hc S1
          generalize grow (wr.drewN nq) osq = w2 at S2 ⊢
          clear nq osq
          go_wp2
          go_roundg (j - (c + 1))
          case measure => omega
          case rel => exact ⟨c + 1, j, by go_num, rfl, by omega, by omega, hjh, Nat.le_refl _, S2, Lib.hid ⟨HI.out.1, fun _ => by rw [Nat.add_sub_cancel, show p + 1 - (c + 1) = zz by have := HPC.out; omega, ← HXY.out.1, ← HXY.out.2]; exact decide_eq_false (by omega)⟩⟩
      · obtain rfl : i = j := by omega
        obtain ⟨en, hen⟩ : ∃ en, en = nn - i := ⟨_, rfl⟩
        have een : (nn : Int) - (i : Int) = (en : Int) := by have := HNN.out; omega
        have hP := HI.out.1
        have hQ := HI.out.2
        have HSPL : Hid (∀ d1 : Array α, d1.size = d.size → (∀ x, d1[x]! = rotF (fun x => d[x]!) i m en x) → Split (ltOf cf) key a b i mid en d d1) := Lib.hid fun d1 k1 k2 =>
          (sym_split hO key HKEY.out d d1 a m b mid i en (by omega) (by omega) hb HMID.out (by have := HNN.out; omega) (by rw [HLO.out]; exact hli) (by rw [HHI.out]; exact hjh)
            (fun h => by rw [HHI.out] at h; rw [show mid + m - 1 - i = p - i by have := HPN.out; omega]; exact hP h) (fun h => by rw [HLO.out] at h; rw [show mid + m - i = p + 1 - i by have := HPN.out; omega]; exact hQ h) k1 k2 HS1.out HS2.out).1
        have hE : mid ≤ en ∧ m ≤ en ∧ en ≤ b := by have := HNN.out; omega
        obtain ⟨hme, hme', heb⟩ := hE
        have him : i ≤ mid := by omega
        have HEN := Lib.hid hen
        clear hP hQ HI hen hij hlt hkx
        have hrot : (i < m ∧ m < en) ∨ (i < m ∧ ¬ m < en) := by have := HNN.out; have := HEN.out; have := HEH.out; omega
        rcases hrot with ⟨r1, r2⟩ | ⟨r1, r2⟩
        · have q80 := rotate_any L enc g cb blk off cap i m en d0 d w0 wr R hs S1.out r1 r2 (by omega) hsz
          go_upto_region 41 with (go_at_call 80; (with_reducible refine q80.mono ?_); rintro e w1 ⟨rfl, d1, hd1, hf1, S2'⟩; have HSP := Lib.hid (HSPL.out d1 hd1 hf1); have S2 : Aside _ := S2'; clear hf1 S2')
          clear q80
          rcases (show (a < i ∧ i < mid) ∨ ¬ a < i ∨ (a < i ∧ ¬ i < mid) by omega) with ⟨l1, l2⟩ | l1 | ⟨l1, l2⟩
          · have q79 := IH.out a i mid d1 _ l1 l2 (by omega) (by omega) hd1 S2.out HSP.out.l1 HSP.out.l2
            go_upto_region 43 with (go_at_call 79; (with_reducible refine q79.mono ?_); rintro e w2 ⟨rfl, d2, t2, m2, S3⟩; have T2 := Lib.hid t2; have M2 := Lib.hid m2; have S4 : Aside _ := S3; clear t2 m2 S3)
            have hd2 : d2.size = d.size := M2.out.stab.1.trans hd1
            clear q79
            rcases (show (mid < en ∧ en < b) ∨ ¬ mid < en ∨ (mid < en ∧ ¬ en < b) by omega) with ⟨k1, k2⟩ | k1 | ⟨k1, k2⟩
            · have q79 := IH.out mid en b d2 _ k1 k2 (by omega) hb hd2 S4.out (SortedIn.same HSP.out.r1 fun x h _ => M2.out.out x (.inr h)) (SortedIn.same HSP.out.r2 fun x h _ => M2.out.out x (.inr (by omega)))
              go_wp2_with (go_at_call 79; (with_reducible refine q79.mono ?_); rintro e w3 ⟨rfl, d3, t3', m3, S5⟩; have T3 := Lib.hid t3'; have M3 := Lib.hid m3; have S6 : Aside _ := S5; clear t3' m3 S5)
              go_end0
              exact ⟨rfl, d3, (sym_end HSP.out (by omega) (by omega) M2.out T2.out M3.out T3.out).1, (sym_end HSP.out (by omega) (by omega) M2.out T2.out M3.out T3.out).2, S6.out⟩
            · have T3 : Hid (SortedIn (ltOf cf) mid b d2) := Lib.hid (by have := SortedIn.same HSP.out.r2 (fun x h _ => M2.out.out x (.inr (by omega))); rwa [show en = mid by omega] at this)
              have M3 := Lib.hid (Merged.refl key mid b d2)
              go_wp2
              go_end0
              exact ⟨rfl, d2, (sym_end HSP.out (by omega) (by omega) M2.out T2.out M3.out T3.out).1, (sym_end HSP.out (by omega) (by omega) M2.out T2.out M3.out T3.out).2, S4.out⟩
            · have T3 : Hid (SortedIn (ltOf cf) mid b d2) := Lib.hid (by have := SortedIn.same HSP.out.r1 (fun x h _ => M2.out.out x (.inr h)); rwa [show en = b by omega] at this)
              have M3 := Lib.hid (Merged.refl key mid b d2)
              go_wp2
              go_end0
              exact ⟨rfl, d2, (sym_end HSP.out (by omega) (by omega) M2.out T2.out M3.out T3.out).1, (sym_end HSP.out (by omega) (by omega) M2.out T2.out M3.out T3.out).2, S4.out⟩
          · have t2 : SortedIn (ltOf cf) a mid d1 := by have := HSP.out.l2; rwa [show i = a by omega] at this
            obtain ⟨d2, hdd⟩ : ∃ d2, d2 = d1 := ⟨_, rfl⟩
            have T2 : Hid (SortedIn (ltOf cf) a mid d2) := Lib.hid (by rw [hdd]; exact t2)
            have M2 : Hid (Merged key a mid d1 d2) := Lib.hid (by rw [hdd]; exact Merged.refl key a mid d1)
            have hd2 : d2.size = d.size := by rw [hdd]; exact hd1
            have S4 := S2
            rw [← hdd] at S4
            clear hdd t2 S2
            go_upto_region 43 with (fail)
            rcases (show (mid < en ∧ en < b) ∨ ¬ mid < en ∨ (mid < en ∧ ¬ en < b) by omega) with ⟨k1, k2⟩ | k1 | ⟨k1, k2⟩
            · have q79 := IH.out mid en b d2 _ k1 k2 (by omega) hb hd2 S4.out (SortedIn.same HSP.out.r1 fun x h _ => M2.out.out x (.inr h)) (SortedIn.same HSP.out.r2 fun x h _ => M2.out.out x (.inr (by omega)))
              go_wp2_with (go_at_call 79; (with_reducible refine q79.mono ?_); rintro e w3 ⟨rfl, d3, t3', m3, S5⟩; have T3 := Lib.hid t3'; have M3 := Lib.hid m3; have S6 : Aside _ := S5; clear t3' m3 S5)
              go_end0
              exact ⟨rfl, d3, (sym_end HSP.out (by omega) (by omega) M2.out T2.out M3.out T3.out).1, (sym_end HSP.out (by omega) (by omega) M2.out T2.out M3.out T3.out).2, S6.out⟩
            · have T3 : Hid (SortedIn (ltOf cf) mid b d2) := Lib.hid (by have := SortedIn.same HSP.out.r2 (fun x h _ => M2.out.out x (.inr (by omega))); rwa [show en = mid by omega] at this)
              have M3 := Lib.hid (Merged.refl key mid b d2)
              go_wp2
              go_end0
              exact ⟨rfl, d2, (sym_end HSP.out (by omega) (by omega) M2.out T2.out M3.out T3.out).1, (sym_end HSP.out (by omega) (by omega) M2.out T2.out M3.out T3.out).2, S4.out⟩
            · have T3 : Hid (SortedIn (ltOf cf) mid b d2) := Lib.hid (by have := SortedIn.same HSP.out.r1 (fun x h _ => M2.out.out x (.inr h)); rwa [show en = b by omega] at this)
              have M3 := Lib.hid (Merged.refl key mid b d2)
              go_wp2
              go_end0
              exact ⟨rfl, d2, (sym_end HSP.out (by omega) (by omega) M2.out T2.out M3.out T3.out).1, (sym_end HSP.out (by omega) (by omega) M2.out T2.out M3.out T3.out).2, S4.out⟩
          · have t2 : SortedIn (ltOf cf) a mid d1 := by have := HSP.out.l1; rwa [show i = mid by omega] at this
            obtain ⟨d2, hdd⟩ : ∃ d2, d2 = d1 := ⟨_, rfl⟩
            have T2 : Hid (SortedIn (ltOf cf) a mid d2) := Lib.hid (by rw [hdd]; exact t2)
            have M2 : Hid (Merged key a mid d1 d2) := Lib.hid (by rw [hdd]; exact Merged.refl key a mid d1)
            have hd2 : d2.size = d.size := by rw [hdd]; exact hd1
            have S4 := S2
            rw [← hdd] at S4
            clear hdd t2 S2
            go_upto_region 43 with (fail)
            rcases (show (mid < en ∧ en < b) ∨ ¬ mid < en ∨ (mid < en ∧ ¬ en < b) by omega) with ⟨k1, k2⟩ | k1 | ⟨k1, k2⟩
            · have q79 := IH.out mid en b d2 _ k1 k2 (by omega) hb hd2 S4.out (SortedIn.same HSP.out.r1 fun x h _ => M2.out.out x (.inr h)) (SortedIn.same HSP.out.r2 fun x h _ => M2.out.out x (.inr (by omega)))
              go_wp2_with (go_at_call 79; (with_reducible refine q79.mono ?_); rintro e w3 ⟨rfl, d3, t3', m3, S5⟩; have T3 := Lib.hid t3'; have M3 := Lib.hid m3; have S6 : Aside _ := S5; clear t3' m3 S5)
              go_end0
              exact ⟨rfl, d3, (sym_end HSP.out (by omega) (by omega) M2.out T2.out M3.out T3.out).1, (sym_end HSP.out (by omega) (by omega) M2.out T2.out M3.out T3.out).2, S6.out⟩
            · have T3 : Hid (SortedIn (ltOf cf) mid b d2) := Lib.hid (by have := SortedIn.same HSP.out.r2 (fun x h _ => M2.out.out x (.inr (by omega))); rwa [show en = mid by omega] at this)
              have M3 := Lib.hid (Merged.refl key mid b d2)
              go_wp2
              go_end0
              exact ⟨rfl, d2, (sym_end HSP.out (by omega) (by omega) M2.out T2.out M3.out T3.out).1, (sym_end HSP.out (by omega) (by omega) M2.out T2.out M3.out T3.out).2, S4.out⟩
            · have T3 : Hid (SortedIn (ltOf cf) mid b d2) := Lib.hid (by have := SortedIn.same HSP.out.r1 (fun x h _ => M2.out.out x (.inr h)); rwa [show en = b by omega] at this)
              have M3 := Lib.hid (Merged.refl key mid b d2)
              go_wp2
              go_end0
              exact ⟨rfl, d2, (sym_end HSP.out (by omega) (by omega) M2.out T2.out M3.out T3.out).1, (sym_end HSP.out (by omega) (by omega) M2.out T2.out M3.out T3.out).2, S4.out⟩
        · obtain ⟨d1, hdd⟩ : ∃ d1, d1 = d := ⟨_, rfl⟩
          have hd1 : d1.size = d.size := by rw [hdd]
          have HSP := Lib.hid (HSPL.out d1 hd1 (fun x => by rw [hdd, show en = m by omega, rotF_none2 _ _ _ (by omega)]))
          have S2 := S1
          rw [← hdd] at S2
          clear hdd S1
          go_upto_region 41 with (fail)
          rcases (show (a < i ∧ i < mid) ∨ ¬ a < i ∨ (a < i ∧ ¬ i < mid) by omega) with ⟨l1, l2⟩ | l1 | ⟨l1, l2⟩
          · have q79 := IH.out a i mid d1 _ l1 l2 (by omega) (by omega) hd1 S2.out HSP.out.l1 HSP.out.l2
            go_upto_region 43 with (go_at_call 79; (with_reducible refine q79.mono ?_); rintro e w2 ⟨rfl, d2, t2, m2, S3⟩; have T2 := Lib.hid t2; have M2 := Lib.hid m2; have S4 : Aside _ := S3; clear t2 m2 S3)
            have hd2 : d2.size = d.size := M2.out.stab.1.trans hd1
            clear q79
            rcases (show (mid < en ∧ en < b) ∨ ¬ mid < en ∨ (mid < en ∧ ¬ en < b) by omega) with ⟨k1, k2⟩ | k1 | ⟨k1, k2⟩
            · have q79 := IH.out mid en b d2 _ k1 k2 (by omega) hb hd2 S4.out (SortedIn.same HSP.out.r1 fun x h _ => M2.out.out x (.inr h)) (SortedIn.same HSP.out.r2 fun x h _ => M2.out.out x (.inr (by omega)))
              go_wp2_with (go_at_call 79; (with_reducible refine q79.mono ?_); rintro e w3 ⟨rfl, d3, t3', m3, S5⟩; have T3 := Lib.hid t3'; have M3 := Lib.hid m3; have S6 : Aside _ := S5; clear t3' m3 S5)
              go_end0
              exact ⟨rfl, d3, (sym_end HSP.out (by omega) (by omega) M2.out T2.out M3.out T3.out).1, (sym_end HSP.out (by omega) (by omega) M2.out T2.out M3.out T3.out).2, S6.out⟩
            · have T3 : Hid (SortedIn (ltOf cf) mid b d2) := Lib.hid (by have := SortedIn.same HSP.out.r2 (fun x h _ => M2.out.out x (.inr (by omega))); rwa [show en = mid by omega] at this)
              have M3 := Lib.hid (Merged.refl key mid b d2)
              go_wp2
              go_end0
              exact ⟨rfl, d2, (sym_end HSP.out (by omega) (by omega) M2.out T2.out M3.out T3.out).1, (sym_end HSP.out (by omega) (by omega) M2.out T2.out M3.out T3.out).2, S4.out⟩
            · have T3 : Hid (SortedIn (ltOf cf) mid b d2) := Lib.hid (by have := SortedIn.same HSP.out.r1 (fun x h _ => M2.out.out x (.inr h)); rwa [show en = b by omega] at this)
              have M3 := Lib.hid (Merged.refl key mid b d2)
              go_wp2
              go_end0
              exact ⟨rfl, d2, (sym_end HSP.out (by omega) (by omega) M2.out T2.out M3.out T3.out).1, (sym_end HSP.out (by omega) (by omega) M2.out T2.out M3.out T3.out).2, S4.out⟩
          · have t2 : SortedIn (ltOf cf) a mid d1 := by have := HSP.out.l2; rwa [show i = a by omega] at this
            obtain ⟨d2, hdd⟩ : ∃ d2, d2 = d1 := ⟨_, rfl⟩
            have T2 : Hid (SortedIn (ltOf cf) a mid d2) := Lib.hid (by rw [hdd]; exact t2)
            have M2 : Hid (Merged key a mid d1 d2) := Lib.hid (by rw [hdd]; exact Merged.refl key a mid d1)
            have hd2 : d2.size = d.size := by rw [hdd]; exact hd1
            have S4 := S2
            rw [← hdd] at S4
            clear hdd t2 S2
            go_upto_region 43 with (fail)
            rcases (show (mid < en ∧ en < b) ∨ ¬ mid < en ∨ (mid < en ∧ ¬ en < b) by omega) with ⟨k1, k2⟩ | k1 | ⟨k1, k2⟩
            · have q79 := IH.out mid en b d2 _ k1 k2 (by omega) hb hd2 S4.out (SortedIn.same HSP.out.r1 fun x h _ => M2.out.out x (.inr h)) (SortedIn.same HSP.out.r2 fun x h _ => M2.out.out x (.inr (by omega)))
              go_wp2_with (go_at_call 79; (with_reducible refine q79.mono ?_); rintro e w3 ⟨rfl, d3, t3', m3, S5⟩; have T3 := Lib.hid t3'; have M3 := Lib.hid m3; have S6 : Aside _ := S5; clear t3' m3 S5)
              go_end0
              exact ⟨rfl, d3, (sym_end HSP.out (by omega) (by omega) M2.out T2.out M3.out T3.out).1, (sym_end HSP.out (by omega) (by omega) M2.out T2.out M3.out T3.out).2, S6.out⟩
            · have T3 : Hid (SortedIn (ltOf cf) mid b d2) := Lib.hid (by have := SortedIn.same HSP.out.r2 (fun x h _ => M2.out.out x (.inr (by omega))); rwa [show en = mid by omega] at this)
              have M3 := Lib.hid (Merged.refl key mid b d2)
              go_wp2
              go_end0
              exact ⟨rfl, d2, (sym_end HSP.out (by omega) (by omega) M2.out T2.out M3.out T3.out).1, (sym_end HSP.out (by omega) (by omega) M2.out T2.out M3.out T3.out).2, S4.out⟩
            · have T3 : Hid (SortedIn (ltOf cf) mid b d2) := Lib.hid (by have := SortedIn.same HSP.out.r1 (fun x h _ => M2.out.out x (.inr h)); rwa [show en = b by omega] at this)
              have M3 := Lib.hid (Merged.refl key mid b d2)
              go_wp2
              go_end0
              exact ⟨rfl, d2, (sym_end HSP.out (by omega) (by omega) M2.out T2.out M3.out T3.out).1, (sym_end HSP.out (by omega) (by omega) M2.out T2.out M3.out T3.out).2, S4.out⟩
          · have t2 : SortedIn (ltOf cf) a mid d1 := by have := HSP.out.l1; rwa [show i = mid by omega] at this
            obtain ⟨d2, hdd⟩ : ∃ d2, d2 = d1 := ⟨_, rfl⟩
            have T2 : Hid (SortedIn (ltOf cf) a mid d2) := Lib.hid (by rw [hdd]; exact t2)
            have M2 : Hid (Merged key a mid d1 d2) := Lib.hid (by rw [hdd]; exact Merged.refl key a mid d1)
            have hd2 : d2.size = d.size := by rw [hdd]; exact hd1
            have S4 := S2
            rw [← hdd] at S4
            clear hdd t2 S2
            go_upto_region 43 with (fail)
            rcases (show (mid < en ∧ en < b) ∨ ¬ mid < en ∨ (mid < en ∧ ¬ en < b) by omega) with ⟨k1, k2⟩ | k1 | ⟨k1, k2⟩
            · have q79 := IH.out mid en b d2 _ k1 k2 (by omega) hb hd2 S4.out (SortedIn.same HSP.out.r1 fun x h _ => M2.out.out x (.inr h)) (SortedIn.same HSP.out.r2 fun x h _ => M2.out.out x (.inr (by omega)))
              go_wp2_with (go_at_call 79; (with_reducible refine q79.mono ?_); rintro e w3 ⟨rfl, d3, t3', m3, S5⟩; have T3 := Lib.hid t3'; have M3 := Lib.hid m3; have S6 : Aside _ := S5; clear t3' m3 S5)
              go_end0
              exact ⟨rfl, d3, (sym_end HSP.out (by omega) (by omega) M2.out T2.out M3.out T3.out).1, (sym_end HSP.out (by omega) (by omega) M2.out T2.out M3.out T3.out).2, S6.out⟩
            · have T3 : Hid (SortedIn (ltOf cf) mid b d2) := Lib.hid (by have := SortedIn.same HSP.out.r2 (fun x h _ => M2.out.out x (.inr (by omega))); rwa [show en = mid by omega] at this)
              have M3 := Lib.hid (Merged.refl key mid b d2)
              go_wp2
              go_end0
              exact ⟨rfl, d2, (sym_end HSP.out (by omega) (by omega) M2.out T2.out M3.out T3.out).1, (sym_end HSP.out (by omega) (by omega) M2.out T2.out M3.out T3.out).2, S4.out⟩
            · have T3 : Hid (SortedIn (ltOf cf) mid b d2) := Lib.hid (by have := SortedIn.same HSP.out.r1 (fun x h _ => M2.out.out x (.inr h)); rwa [show en = b by omega] at this)
              have M3 := Lib.hid (Merged.refl key mid b d2)
              go_wp2
              go_end0
              exact ⟨rfl, d2, (sym_end HSP.out (by omega) (by omega) M2.out T2.out M3.out T3.out).1, (sym_end HSP.out (by omega) (by omega) M2.out T2.out M3.out T3.out).2, S4.out⟩
  · have el : a = lo := by have h := hlo; unfold symLo at h; rw [if_neg hmm] at h; exact h
    have eh : m = hi := by have h := hhi; unfold symHi at h; rw [if_neg hmm] at h; exact h
    have HEL := Lib.hid el
    have HEH := Lib.hid eh
    clear hlo hhi eh el
    go_enter L.f79, Try.ntmps79
    go_wp2
    go_loopg [20, 21] (hi - lo) (fun kx s20 s21 wr => ∃ i j : Nat, s20 = .int .i64 i ∧ s21 = .int .i64 j ∧ lo ≤ i ∧ i ≤ j ∧ j ≤ hi ∧ j - i ≤ kx ∧ Aside (SWK enc k w0 blk off d wr) ∧ Hid ((j < hi → ltOf cf d[p - j]! d[j]! = true) ∧ (lo < i → ltOf cf d[p + 1 - i]! d[i - 1]! = false)))
    case atStart => exact ⟨lo, hi, by rw [HEL.out], by rw [HEH.out], Nat.le_refl _, g3, Nat.le_refl _, Nat.le_refl _, S0, Lib.hid ⟨fun h => absurd h (Nat.lt_irrefl _), fun h => absurd h (Nat.lt_irrefl _)⟩⟩
    case round =>
      clear S0 em en1 ep
      obtain ⟨i, j, rfl, rfl, hli, hij, hjh, hkx, S1, HI⟩ := hrel
      by_cases hlt : i < j
      · obtain ⟨c, hc0⟩ : ∃ c, c = (i + j) / 2 := ⟨_, rfl⟩
        have ec2 : ((i : Int) + (j : Int)) / 2 = (c : Int) := by omega
        have hic : i ≤ c := by omega
        have hcj : c < j := by omega
        obtain ⟨zz, hpc⟩ : ∃ zz, zz = p - c := ⟨_, rfl⟩
        have hcp : c ≤ p := by omega
        have epc : IntKind.i64.wrap ((p : Int) - (c : Int)) = (zz : Int) := by rw [IntKind.wrap_i64]; have := HP.out; omega
        have hzzb : zz < d.size := by have := HP.out; omega
        have HPC := Lib.hid hpc
        clear hc0 hpc
        have pc : (0 : Int) ≤ (c : Int) := by omega
        have ec : ((c : Int)).toNat = c := by omega
        have bc : (c : Int) < (d.size : Int) := by omega
        have rc : IntKind.i64.wrap ((c : Int)) = (c : Int) := by rw [IntKind.wrap_i64]; omega
        have pzz : (0 : Int) ≤ (zz : Int) := by omega
        have ezz : ((zz : Int)).toNat = zz := by omega
        have bzz : (zz : Int) < (d.size : Int) := by omega
        have rzz : IntKind.i64.wrap ((zz : Int)) = (zz : Int) := by rw [IntKind.wrap_i64]; omega
        obtain ⟨xx, hxx⟩ : ∃ z, z = d[zz]! := ⟨_, rfl⟩
        obtain ⟨yy, hyy⟩ : ∃ z, z = d[c]! := ⟨_, rfl⟩
        have lx := S1.out.ld R (by omega) P zz (by omega)
        have ly := S1.out.ld R (by omega) P c (by omega)
        rw [← hxx] at lx
        rw [← hyy] at ly
        have hc := S1.out.cmp HC.out (by omega) xx yy
        have HXY := Lib.hid (show xx = d[zz]! ∧ yy = d[c]! from ⟨hxx, hyy⟩)
        clear hxx hyy
        by_cases hlv : cf xx yy < 0
        · have hd : decide (cf xx yy < 0) = true := decide_eq_true hlv
          go_wp2_with fail
          go_quiet_grown (first | (go_at_fn g; refine Calls.grown_of (hc _ _)))
          have S2 : Aside _ := S1.out.grown nq osq
          clear lx ly hc S1
          generalize grow (wr.drewN nq) osq = w2 at S2 ⊢
          clear nq osq
          go_wp2
          go_roundg (c - i)
          case measure => omega
          case rel => exact ⟨i, c, rfl, rfl, hli, hic, by omega, Nat.le_refl _, S2, Lib.hid ⟨fun _ => by rw [← HPC.out, ← HXY.out.1, ← HXY.out.2]; exact decide_eq_true hlv, HI.out.2⟩⟩
        · have hd : decide (cf xx yy < 0) = false := decide_eq_false hlv
          go_wp2_with fail
          go_quiet_grown (first | (go_at_fn g; refine Calls.grown_of (hc _ _)))
          have S2 : Aside _ := S1.out.grown nq osq
          clear lx ly hc S1
          generalize grow (wr.drewN nq) osq = w2 at S2 ⊢
          clear nq osq
          go_wp2
          go_roundg (j - (c + 1))
          case measure => omega
          case rel => exact ⟨c + 1, j, by go_num, rfl, by omega, by omega, hjh, Nat.le_refl _, S2, Lib.hid ⟨HI.out.1, fun _ => by rw [Nat.add_sub_cancel, show p + 1 - (c + 1) = zz by have := HPC.out; omega, ← HXY.out.1, ← HXY.out.2]; exact decide_eq_false (by omega)⟩⟩
      · obtain rfl : i = j := by omega
        obtain ⟨en, hen⟩ : ∃ en, en = nn - i := ⟨_, rfl⟩
        have een : (nn : Int) - (i : Int) = (en : Int) := by have := HNN.out; omega
        have hP := HI.out.1
        have hQ := HI.out.2
        have HSPL : Hid (∀ d1 : Array α, d1.size = d.size → (∀ x, d1[x]! = rotF (fun x => d[x]!) i m en x) → Split (ltOf cf) key a b i mid en d d1) := Lib.hid fun d1 k1 k2 =>
          (sym_split hO key HKEY.out d d1 a m b mid i en (by omega) (by omega) hb HMID.out (by have := HNN.out; omega) (by rw [HLO.out]; exact hli) (by rw [HHI.out]; exact hjh)
            (fun h => by rw [HHI.out] at h; rw [show mid + m - 1 - i = p - i by have := HPN.out; omega]; exact hP h) (fun h => by rw [HLO.out] at h; rw [show mid + m - i = p + 1 - i by have := HPN.out; omega]; exact hQ h) k1 k2 HS1.out HS2.out).1
        have hE : mid ≤ en ∧ m ≤ en ∧ en ≤ b := by have := HNN.out; omega
        obtain ⟨hme, hme', heb⟩ := hE
        have him : i ≤ mid := by omega
        have HEN := Lib.hid hen
        clear hP hQ HI hen hij hlt hkx
        have hrot : (i < m ∧ m < en) ∨ (¬ i < m) := by have := HNN.out; have := HEN.out; have := HEH.out; omega
        rcases hrot with ⟨r1, r2⟩ | r1
        · have q80 := rotate_any L enc g cb blk off cap i m en d0 d w0 wr R hs S1.out r1 r2 (by omega) hsz
          go_upto_region 41 with (go_at_call 80; (with_reducible refine q80.mono ?_); rintro e w1 ⟨rfl, d1, hd1, hf1, S2'⟩; have HSP := Lib.hid (HSPL.out d1 hd1 hf1); have S2 : Aside _ := S2'; clear hf1 S2')
          clear q80
          rcases (show (a < i ∧ i < mid) ∨ ¬ a < i ∨ (a < i ∧ ¬ i < mid) by omega) with ⟨l1, l2⟩ | l1 | ⟨l1, l2⟩
          · have q79 := IH.out a i mid d1 _ l1 l2 (by omega) (by omega) hd1 S2.out HSP.out.l1 HSP.out.l2
            go_upto_region 43 with (go_at_call 79; (with_reducible refine q79.mono ?_); rintro e w2 ⟨rfl, d2, t2, m2, S3⟩; have T2 := Lib.hid t2; have M2 := Lib.hid m2; have S4 : Aside _ := S3; clear t2 m2 S3)
            have hd2 : d2.size = d.size := M2.out.stab.1.trans hd1
            clear q79
            rcases (show (mid < en ∧ en < b) ∨ ¬ mid < en ∨ (mid < en ∧ ¬ en < b) by omega) with ⟨k1, k2⟩ | k1 | ⟨k1, k2⟩
            · have q79 := IH.out mid en b d2 _ k1 k2 (by omega) hb hd2 S4.out (SortedIn.same HSP.out.r1 fun x h _ => M2.out.out x (.inr h)) (SortedIn.same HSP.out.r2 fun x h _ => M2.out.out x (.inr (by omega)))
              go_wp2_with (go_at_call 79; (with_reducible refine q79.mono ?_); rintro e w3 ⟨rfl, d3, t3', m3, S5⟩; have T3 := Lib.hid t3'; have M3 := Lib.hid m3; have S6 : Aside _ := S5; clear t3' m3 S5)
              go_end0
              exact ⟨rfl, d3, (sym_end HSP.out (by omega) (by omega) M2.out T2.out M3.out T3.out).1, (sym_end HSP.out (by omega) (by omega) M2.out T2.out M3.out T3.out).2, S6.out⟩
            · have T3 : Hid (SortedIn (ltOf cf) mid b d2) := Lib.hid (by have := SortedIn.same HSP.out.r2 (fun x h _ => M2.out.out x (.inr (by omega))); rwa [show en = mid by omega] at this)
              have M3 := Lib.hid (Merged.refl key mid b d2)
              go_wp2
              go_end0
              exact ⟨rfl, d2, (sym_end HSP.out (by omega) (by omega) M2.out T2.out M3.out T3.out).1, (sym_end HSP.out (by omega) (by omega) M2.out T2.out M3.out T3.out).2, S4.out⟩
            · have T3 : Hid (SortedIn (ltOf cf) mid b d2) := Lib.hid (by have := SortedIn.same HSP.out.r1 (fun x h _ => M2.out.out x (.inr h)); rwa [show en = b by omega] at this)
              have M3 := Lib.hid (Merged.refl key mid b d2)
              go_wp2
              go_end0
              exact ⟨rfl, d2, (sym_end HSP.out (by omega) (by omega) M2.out T2.out M3.out T3.out).1, (sym_end HSP.out (by omega) (by omega) M2.out T2.out M3.out T3.out).2, S4.out⟩
          · have t2 : SortedIn (ltOf cf) a mid d1 := by have := HSP.out.l2; rwa [show i = a by omega] at this
            obtain ⟨d2, hdd⟩ : ∃ d2, d2 = d1 := ⟨_, rfl⟩
            have T2 : Hid (SortedIn (ltOf cf) a mid d2) := Lib.hid (by rw [hdd]; exact t2)
            have M2 : Hid (Merged key a mid d1 d2) := Lib.hid (by rw [hdd]; exact Merged.refl key a mid d1)
            have hd2 : d2.size = d.size := by rw [hdd]; exact hd1
            have S4 := S2
            rw [← hdd] at S4
            clear hdd t2 S2
            go_upto_region 43 with (fail)
            rcases (show (mid < en ∧ en < b) ∨ ¬ mid < en ∨ (mid < en ∧ ¬ en < b) by omega) with ⟨k1, k2⟩ | k1 | ⟨k1, k2⟩
            · have q79 := IH.out mid en b d2 _ k1 k2 (by omega) hb hd2 S4.out (SortedIn.same HSP.out.r1 fun x h _ => M2.out.out x (.inr h)) (SortedIn.same HSP.out.r2 fun x h _ => M2.out.out x (.inr (by omega)))
              go_wp2_with (go_at_call 79; (with_reducible refine q79.mono ?_); rintro e w3 ⟨rfl, d3, t3', m3, S5⟩; have T3 := Lib.hid t3'; have M3 := Lib.hid m3; have S6 : Aside _ := S5; clear t3' m3 S5)
              go_end0
              exact ⟨rfl, d3, (sym_end HSP.out (by omega) (by omega) M2.out T2.out M3.out T3.out).1, (sym_end HSP.out (by omega) (by omega) M2.out T2.out M3.out T3.out).2, S6.out⟩
            · have T3 : Hid (SortedIn (ltOf cf) mid b d2) := Lib.hid (by have := SortedIn.same HSP.out.r2 (fun x h _ => M2.out.out x (.inr (by omega))); rwa [show en = mid by omega] at this)
              have M3 := Lib.hid (Merged.refl key mid b d2)
              go_wp2
              go_end0
              exact ⟨rfl, d2, (sym_end HSP.out (by omega) (by omega) M2.out T2.out M3.out T3.out).1, (sym_end HSP.out (by omega) (by omega) M2.out T2.out M3.out T3.out).2, S4.out⟩
            · have T3 : Hid (SortedIn (ltOf cf) mid b d2) := Lib.hid (by have := SortedIn.same HSP.out.r1 (fun x h _ => M2.out.out x (.inr h)); rwa [show en = b by omega] at this)
              have M3 := Lib.hid (Merged.refl key mid b d2)
              go_wp2
              go_end0
              exact ⟨rfl, d2, (sym_end HSP.out (by omega) (by omega) M2.out T2.out M3.out T3.out).1, (sym_end HSP.out (by omega) (by omega) M2.out T2.out M3.out T3.out).2, S4.out⟩
          · have t2 : SortedIn (ltOf cf) a mid d1 := by have := HSP.out.l1; rwa [show i = mid by omega] at this
            obtain ⟨d2, hdd⟩ : ∃ d2, d2 = d1 := ⟨_, rfl⟩
            have T2 : Hid (SortedIn (ltOf cf) a mid d2) := Lib.hid (by rw [hdd]; exact t2)
            have M2 : Hid (Merged key a mid d1 d2) := Lib.hid (by rw [hdd]; exact Merged.refl key a mid d1)
            have hd2 : d2.size = d.size := by rw [hdd]; exact hd1
            have S4 := S2
            rw [← hdd] at S4
            clear hdd t2 S2
            go_upto_region 43 with (fail)
            rcases (show (mid < en ∧ en < b) ∨ ¬ mid < en ∨ (mid < en ∧ ¬ en < b) by omega) with ⟨k1, k2⟩ | k1 | ⟨k1, k2⟩
            · have q79 := IH.out mid en b d2 _ k1 k2 (by omega) hb hd2 S4.out (SortedIn.same HSP.out.r1 fun x h _ => M2.out.out x (.inr h)) (SortedIn.same HSP.out.r2 fun x h _ => M2.out.out x (.inr (by omega)))
              go_wp2_with (go_at_call 79; (with_reducible refine q79.mono ?_); rintro e w3 ⟨rfl, d3, t3', m3, S5⟩; have T3 := Lib.hid t3'; have M3 := Lib.hid m3; have S6 : Aside _ := S5; clear t3' m3 S5)
              go_end0
              exact ⟨rfl, d3, (sym_end HSP.out (by omega) (by omega) M2.out T2.out M3.out T3.out).1, (sym_end HSP.out (by omega) (by omega) M2.out T2.out M3.out T3.out).2, S6.out⟩
            · have T3 : Hid (SortedIn (ltOf cf) mid b d2) := Lib.hid (by have := SortedIn.same HSP.out.r2 (fun x h _ => M2.out.out x (.inr (by omega))); rwa [show en = mid by omega] at this)
              have M3 := Lib.hid (Merged.refl key mid b d2)
              go_wp2
              go_end0
              exact ⟨rfl, d2, (sym_end HSP.out (by omega) (by omega) M2.out T2.out M3.out T3.out).1, (sym_end HSP.out (by omega) (by omega) M2.out T2.out M3.out T3.out).2, S4.out⟩
            · have T3 : Hid (SortedIn (ltOf cf) mid b d2) := Lib.hid (by have := SortedIn.same HSP.out.r1 (fun x h _ => M2.out.out x (.inr h)); rwa [show en = b by omega] at this)
              have M3 := Lib.hid (Merged.refl key mid b d2)
              go_wp2
              go_end0
              exact ⟨rfl, d2, (sym_end HSP.out (by omega) (by omega) M2.out T2.out M3.out T3.out).1, (sym_end HSP.out (by omega) (by omega) M2.out T2.out M3.out T3.out).2, S4.out⟩
        · obtain ⟨d1, hdd⟩ : ∃ d1, d1 = d := ⟨_, rfl⟩
          have hd1 : d1.size = d.size := by rw [hdd]
          have HSP := Lib.hid (HSPL.out d1 hd1 (fun x => by rw [hdd, show i = m by omega, rotF_none]))
          have S2 := S1
          rw [← hdd] at S2
          clear hdd S1
          go_upto_region 41 with (fail)
          rcases (show (a < i ∧ i < mid) ∨ ¬ a < i ∨ (a < i ∧ ¬ i < mid) by omega) with ⟨l1, l2⟩ | l1 | ⟨l1, l2⟩
          · have q79 := IH.out a i mid d1 _ l1 l2 (by omega) (by omega) hd1 S2.out HSP.out.l1 HSP.out.l2
            go_upto_region 43 with (go_at_call 79; (with_reducible refine q79.mono ?_); rintro e w2 ⟨rfl, d2, t2, m2, S3⟩; have T2 := Lib.hid t2; have M2 := Lib.hid m2; have S4 : Aside _ := S3; clear t2 m2 S3)
            have hd2 : d2.size = d.size := M2.out.stab.1.trans hd1
            clear q79
            rcases (show (mid < en ∧ en < b) ∨ ¬ mid < en ∨ (mid < en ∧ ¬ en < b) by omega) with ⟨k1, k2⟩ | k1 | ⟨k1, k2⟩
            · have q79 := IH.out mid en b d2 _ k1 k2 (by omega) hb hd2 S4.out (SortedIn.same HSP.out.r1 fun x h _ => M2.out.out x (.inr h)) (SortedIn.same HSP.out.r2 fun x h _ => M2.out.out x (.inr (by omega)))
              go_wp2_with (go_at_call 79; (with_reducible refine q79.mono ?_); rintro e w3 ⟨rfl, d3, t3', m3, S5⟩; have T3 := Lib.hid t3'; have M3 := Lib.hid m3; have S6 : Aside _ := S5; clear t3' m3 S5)
              go_end0
              exact ⟨rfl, d3, (sym_end HSP.out (by omega) (by omega) M2.out T2.out M3.out T3.out).1, (sym_end HSP.out (by omega) (by omega) M2.out T2.out M3.out T3.out).2, S6.out⟩
            · have T3 : Hid (SortedIn (ltOf cf) mid b d2) := Lib.hid (by have := SortedIn.same HSP.out.r2 (fun x h _ => M2.out.out x (.inr (by omega))); rwa [show en = mid by omega] at this)
              have M3 := Lib.hid (Merged.refl key mid b d2)
              go_wp2
              go_end0
              exact ⟨rfl, d2, (sym_end HSP.out (by omega) (by omega) M2.out T2.out M3.out T3.out).1, (sym_end HSP.out (by omega) (by omega) M2.out T2.out M3.out T3.out).2, S4.out⟩
            · have T3 : Hid (SortedIn (ltOf cf) mid b d2) := Lib.hid (by have := SortedIn.same HSP.out.r1 (fun x h _ => M2.out.out x (.inr h)); rwa [show en = b by omega] at this)
              have M3 := Lib.hid (Merged.refl key mid b d2)
              go_wp2
              go_end0
              exact ⟨rfl, d2, (sym_end HSP.out (by omega) (by omega) M2.out T2.out M3.out T3.out).1, (sym_end HSP.out (by omega) (by omega) M2.out T2.out M3.out T3.out).2, S4.out⟩
          · have t2 : SortedIn (ltOf cf) a mid d1 := by have := HSP.out.l2; rwa [show i = a by omega] at this
            obtain ⟨d2, hdd⟩ : ∃ d2, d2 = d1 := ⟨_, rfl⟩
            have T2 : Hid (SortedIn (ltOf cf) a mid d2) := Lib.hid (by rw [hdd]; exact t2)
            have M2 : Hid (Merged key a mid d1 d2) := Lib.hid (by rw [hdd]; exact Merged.refl key a mid d1)
            have hd2 : d2.size = d.size := by rw [hdd]; exact hd1
            have S4 := S2
            rw [← hdd] at S4
            clear hdd t2 S2
            go_upto_region 43 with (fail)
            rcases (show (mid < en ∧ en < b) ∨ ¬ mid < en ∨ (mid < en ∧ ¬ en < b) by omega) with ⟨k1, k2⟩ | k1 | ⟨k1, k2⟩
            · have q79 := IH.out mid en b d2 _ k1 k2 (by omega) hb hd2 S4.out (SortedIn.same HSP.out.r1 fun x h _ => M2.out.out x (.inr h)) (SortedIn.same HSP.out.r2 fun x h _ => M2.out.out x (.inr (by omega)))
              go_wp2_with (go_at_call 79; (with_reducible refine q79.mono ?_); rintro e w3 ⟨rfl, d3, t3', m3, S5⟩; have T3 := Lib.hid t3'; have M3 := Lib.hid m3; have S6 : Aside _ := S5; clear t3' m3 S5)
              go_end0
              exact ⟨rfl, d3, (sym_end HSP.out (by omega) (by omega) M2.out T2.out M3.out T3.out).1, (sym_end HSP.out (by omega) (by omega) M2.out T2.out M3.out T3.out).2, S6.out⟩
            · have T3 : Hid (SortedIn (ltOf cf) mid b d2) := Lib.hid (by have := SortedIn.same HSP.out.r2 (fun x h _ => M2.out.out x (.inr (by omega))); rwa [show en = mid by omega] at this)
              have M3 := Lib.hid (Merged.refl key mid b d2)
              go_wp2
              go_end0
              exact ⟨rfl, d2, (sym_end HSP.out (by omega) (by omega) M2.out T2.out M3.out T3.out).1, (sym_end HSP.out (by omega) (by omega) M2.out T2.out M3.out T3.out).2, S4.out⟩
            · have T3 : Hid (SortedIn (ltOf cf) mid b d2) := Lib.hid (by have := SortedIn.same HSP.out.r1 (fun x h _ => M2.out.out x (.inr h)); rwa [show en = b by omega] at this)
              have M3 := Lib.hid (Merged.refl key mid b d2)
              go_wp2
              go_end0
              exact ⟨rfl, d2, (sym_end HSP.out (by omega) (by omega) M2.out T2.out M3.out T3.out).1, (sym_end HSP.out (by omega) (by omega) M2.out T2.out M3.out T3.out).2, S4.out⟩
          · have t2 : SortedIn (ltOf cf) a mid d1 := by have := HSP.out.l1; rwa [show i = mid by omega] at this
            obtain ⟨d2, hdd⟩ : ∃ d2, d2 = d1 := ⟨_, rfl⟩
            have T2 : Hid (SortedIn (ltOf cf) a mid d2) := Lib.hid (by rw [hdd]; exact t2)
            have M2 : Hid (Merged key a mid d1 d2) := Lib.hid (by rw [hdd]; exact Merged.refl key a mid d1)
            have hd2 : d2.size = d.size := by rw [hdd]; exact hd1
            have S4 := S2
            rw [← hdd] at S4
            clear hdd t2 S2
            go_upto_region 43 with (fail)
            rcases (show (mid < en ∧ en < b) ∨ ¬ mid < en ∨ (mid < en ∧ ¬ en < b) by omega) with ⟨k1, k2⟩ | k1 | ⟨k1, k2⟩
            · have q79 := IH.out mid en b d2 _ k1 k2 (by omega) hb hd2 S4.out (SortedIn.same HSP.out.r1 fun x h _ => M2.out.out x (.inr h)) (SortedIn.same HSP.out.r2 fun x h _ => M2.out.out x (.inr (by omega)))
              go_wp2_with (go_at_call 79; (with_reducible refine q79.mono ?_); rintro e w3 ⟨rfl, d3, t3', m3, S5⟩; have T3 := Lib.hid t3'; have M3 := Lib.hid m3; have S6 : Aside _ := S5; clear t3' m3 S5)
              go_end0
              exact ⟨rfl, d3, (sym_end HSP.out (by omega) (by omega) M2.out T2.out M3.out T3.out).1, (sym_end HSP.out (by omega) (by omega) M2.out T2.out M3.out T3.out).2, S6.out⟩
            · have T3 : Hid (SortedIn (ltOf cf) mid b d2) := Lib.hid (by have := SortedIn.same HSP.out.r2 (fun x h _ => M2.out.out x (.inr (by omega))); rwa [show en = mid by omega] at this)
              have M3 := Lib.hid (Merged.refl key mid b d2)
              go_wp2
              go_end0
              exact ⟨rfl, d2, (sym_end HSP.out (by omega) (by omega) M2.out T2.out M3.out T3.out).1, (sym_end HSP.out (by omega) (by omega) M2.out T2.out M3.out T3.out).2, S4.out⟩
            · have T3 : Hid (SortedIn (ltOf cf) mid b d2) := Lib.hid (by have := SortedIn.same HSP.out.r1 (fun x h _ => M2.out.out x (.inr h)); rwa [show en = b by omega] at this)
              have M3 := Lib.hid (Merged.refl key mid b d2)
              go_wp2
              go_end0
              exact ⟨rfl, d2, (sym_end HSP.out (by omega) (by omega) M2.out T2.out M3.out T3.out).1, (sym_end HSP.out (by omega) (by omega) M2.out T2.out M3.out T3.out).2, S4.out⟩

/-- symMergeCmpFunc: what stood sorted from a to m, and from m to b, stands sorted from a to b; what bears one key stands as it stood. -/
theorem symMerge_any {k : Nat} (L : SortP P k) (enc : α → List Value) (cf : α → α → Int) (hO : SWO (ltOf cf)) (key : α → κ) (hkey : ∀ x y, ltOf cf x y = true → key x ≠ key y) (g : Nat) (cb : Array Value) (eg : ∀ args w, (callFunc g args).run P w = .ok (.enter g args) w) (blk off cap : Nat) (d0 : Array α) (w0 : World)
    (hcmp : CmpLays P g cb enc k cf blk off d0.size w0) (R : RowK enc k w0 blk off d0) (hsz : d0.size < 4611686018427387904) :
    ∀ (n a m b : Nat) (d : Array α) (w : World), b - a ≤ n → a < m → m < b → b ≤ d.size → d0.size = d.size → SWK enc k w0 blk off d w → SortedIn (ltOf cf) a m d → SortedIn (ltOf cf) m b d →
      Calls P 79 #[.slice (some ⟨blk, off, none⟩) d.size cap, .int .i64 a, .int .i64 m, .int .i64 b, .func (.func g) #[] cb] w (MergeEnd cf key enc k w0 blk off a b d) := by
  intro n
  induction n with
  | zero => intro a m b d w h1 h2 h3; omega
  | succ n ih =>
    intro a m b d w h1 ham hmb hb hs S s1 s2
    by_cases c1 : m = a + 1
    · exact symMerge_left L enc cf hO key hkey g cb eg blk off cap a m b d0 d w0 w hcmp R hs S c1 hmb hb (by omega) s2
    · by_cases c2 : b = m + 1
      · exact symMerge_right L enc cf hO key hkey g cb eg blk off cap a m b d0 d w0 w hcmp R hs S (by omega) c2 hb (by omega) s1
      · refine symMerge_step L enc cf hO key hkey g cb eg blk off cap a m b d0 d w0 w hcmp R hs S (by omega) (by omega) hb (by omega) s1 s2 fun a' m' b' d' w' k1 k2 k3 k4 k5 k6 k7 k8 => ?_
        have := ih a' m' b' d' w' (by omega) k1 k2 (by omega) (by omega) k6 k7 k8
        rwa [k5] at this
end
end Go.Proofs.Ytfnmmnbndfdpiaa

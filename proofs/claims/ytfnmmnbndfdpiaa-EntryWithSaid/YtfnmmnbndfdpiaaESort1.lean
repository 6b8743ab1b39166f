/-
  The library's stable sort at elements of k cells: what exchanges two parts of a row, and what turns two neighbouring parts.
-/
import Derived.Test.YtfnmmnbndfdpiaaESorts
import Derived.Test.YtfnmmnbndfdpiaaSMath
import Derived.Sort.WalkB2
import Derived.Sort.WalkB12
import Derived.Deep.LoopGhost
import Derived.Lib.Hide
namespace Go.Proofs.Ytfnmmnbndfdpiaa
open Go.RowKit Go.Sort Go.Lib Go.Shelf

/-- What the walks below ask of a program: these functions, and these types. -/
structure SortP (P : Program) (k : Nat) : Prop where
  mixed : P.follows .mixedOrders = true
  f75 : P.funcs[75]? = some Try.f75
  f79 : P.funcs[79]? = some Try.f79
  f80 : P.funcs[80]? = some Try.f80
  f81 : P.funcs[81]? = some Try.f81
  t3 : P.underlying 3 = some (.int .i64)
  a3 : ∀ w, (isAgg 3).run P w = .ok false w
  z3 : ∀ w, (Go.sizeOf 3).run P w = .ok 1 w
  v3 : ∀ w, (zeroValue 3).run P w = .ok (.int .i64 0) w
  t4 : P.underlying 4 = some .bool
  a4 : ∀ w, (isAgg 4).run P w = .ok false w
  z4 : ∀ w, (Go.sizeOf 4).run P w = .ok 1 w
  v4 : ∀ w, (zeroValue 4).run P w = .ok (.bool false) w
  t71 : P.underlying 71 = some (.int .u64)
  a71 : ∀ w, (isAgg 71).run P w = .ok false w
  z71 : ∀ w, (Go.sizeOf 71).run P w = .ok 1 w
  v71 : ∀ w, (zeroValue 71).run P w = .ok (.int .u64 0) w
  t37 : P.underlying 37 = some (.slice 24)
  a37 : ∀ w, (isAgg 37).run P w = .ok false w
  z37 : ∀ w, (Go.sizeOf 37).run P w = .ok 1 w
  v37 : ∀ w, (zeroValue 37).run P w = .ok (.slice none 0 0) w
  t96 : P.underlying 96 = Try.prog.underlying 96
  a96 : ∀ w, (isAgg 96).run P w = .ok false w
  z96 : ∀ w, (Go.sizeOf 96).run P w = .ok 1 w
  aE : ∀ w, (isAgg 24).run P w = .ok true w
  zE : ∀ w, (Go.sizeOf 24).run P w = .ok k w

theorem sortP : SortP Try.prog 3 where
  mixed := by kernel_rfl
  f75 := Try.func75
  f79 := Try.func79
  f80 := Try.func80
  f81 := Try.func81
  t3 := Try.underlying3
  a3 := Try.isAgg3
  z3 := Try.sizeOf3
  v3 := Try.zeroValue3
  t4 := Try.underlying4
  a4 := Try.isAgg4
  z4 := Try.sizeOf4
  v4 := Try.zeroValue4
  t71 := Try.underlying71
  a71 := Try.isAgg71
  z71 := Try.sizeOf71
  v71 := Try.zeroValue71
  t37 := Try.underlying37
  a37 := Try.isAgg37
  z37 := Try.sizeOf37
  v37 := Try.zeroValue37
  t96 := rfl
  a96 := Try.isAgg96
  z96 := Try.sizeOf96
  aE := Try.isAgg24
  zE := Try.sizeOf24

section
variable {P : Program} {α : Type} [Inhabited α]

set_option maxHeartbeats 4000000 in
set_option maxRecDepth 1000000 in
theorem swapRange_any {k : Nat} (L : SortP P k) (enc : α → List Value) (g : Nat) (cb : Array Value) (blk off cap a b n : Nat) (d0 d : Array α) (w0 w : World)
    (R : RowK enc k w0 blk off d0) (hs : d0.size = d.size) (S : SWK enc k w0 blk off d w) (hab : a + n ≤ b) (hb : b + n ≤ d.size) (hsz : d.size < 4611686018427387904) :
    Calls P 81 #[.slice (some ⟨blk, off, none⟩) d.size cap, .int .i64 a, .int .i64 b, .int .i64 n, .func (.func g) #[] cb] w fun e w' =>
      e = .returned (.tuple #[]) ∧ ∃ d' : Array α, d'.size = d.size ∧ (∀ i, d'[i]! = swapF (fun i => d[i]!) a b n i) ∧ SWK enc k w0 blk off d' w' := by
  have mixed := L.mixed; have t3 := L.t3; have a3 := L.a3; have z3 := L.z3; have v3 := L.v3; have t4 := L.t4; have a4 := L.a4; have z4 := L.z4; have v4 := L.v4; have t37 := L.t37; have a37 := L.a37; have z37 := L.z37; have v37 := L.v37; have a96 := L.a96; have z96 := L.z96; have aE := L.aE; have zE := L.zE
  have u37 := run_underlying L.t37
  have S0 : Aside (SWK enc k w0 blk off d w) := S
  clear S
  go_enter L.f81, Try.ntmps81
  go_wp2
  go_loopg [10] n (fun kx s10 wr => ∃ (j : Nat) (dk : Array α), s10 = .int .i64 j ∧ j ≤ n ∧ n - j ≤ kx ∧ dk.size = d.size ∧ Aside (SWK enc k w0 blk off dk wr) ∧ Hid (∀ i, dk[i]! = swapF (fun i => d[i]!) a b j i))
  case atStart => exact ⟨0, d, rfl, Nat.zero_le _, by omega, rfl, S0, Lib.hid (fun i => by rw [swapF_zero])⟩
  case round =>
    clear S0
    obtain ⟨j, dk, rfl, hj, hkx, hds, S1, HF⟩ := hrel
    by_cases hlt : j < n
    · obtain ⟨ia, hia⟩ : ∃ ia, ia = a + j := ⟨_, rfl⟩
      obtain ⟨ib, hib⟩ : ∃ ib, ib = b + j := ⟨_, rfl⟩
      have HN := Lib.hid (swapF_next (fun i => d[i]!) dk a b n j HF.out hlt hab (by omega))
      rw [← hia, ← hib] at HN
      have hltz : (j : Int) < (n : Int) := by omega
      have ea44 : ((ia : Int)).toNat = ia := by omega
      have pa44 : (0 : Int) ≤ (ia : Int) := by omega
      have ba44 : (ia : Int) < (d.size : Int) := by omega
      have ec44 : ((ib : Int)).toNat = ib := by omega
      have pc44 : (0 : Int) ≤ (ib : Int) := by omega
      have bc44 : (ib : Int) < (d.size : Int) := by omega
      have hia' : ia < dk.size := by omega
      have hib' : ib < dk.size := by omega
      have ra44 : IntKind.i64.wrap ((a : Int) + (j : Int)) = (ia : Int) := by rw [IntKind.wrap_i64]; omega
      have rc44 : IntKind.i64.wrap ((b : Int) + (j : Int)) = (ib : Int) := by rw [IntKind.wrap_i64]; omega
      have S2 : Aside (SWK enc k w0 blk off (swp dk ia ib) ((wr.drew.setCells blk (off + ia * k) (enc dk[ib]!)).setCells blk (off + ib * k) (enc dk[ia]!))) := S1.out.swapped R ia ib hia' hib'
      have l44a := S1.out.ld1 R (by omega) P ia hia'
      have l44b := S1.out.ld1 R (by omega) P ib hib'
      have s44a := S1.out.st1 R (by omega) P ia hia' dk[ib]!
      have s44b := S1.out.st2 R (by omega) P ia ib hia' hib' dk[ib]! dk[ia]!
      have n44a : (enc dk[ia]!).length = k := R.hk _
      have n44b : (enc dk[ib]!).length = k := R.hk _
      have HI := Lib.hid (show ia = a + j ∧ ib = b + j from ⟨hia, hib⟩)
      clear hia hib
      generalize enc dk[ia]! = cI44 at S2 l44a s44b n44a
      generalize enc dk[ib]! = cJ44 at S2 l44b s44a s44b n44b
      clear S1
      go_wp2_with fail
      go_big_region_o
      clear l44a l44b s44a s44b ra44 rc44
      generalize (wr.drew.setCells blk (off + ia * k) cJ44).setCells blk (off + ib * k) cI44 = w2 at S2 ⊢
      go_wp2
      go_roundg (n - (j + 1))
      case measure => omega
      case rel => exact ⟨j + 1, swp dk ia ib, by go_num, by omega, Nat.le_refl _, by rw [size_swp]; exact hds, S2, HN⟩
    · have hltz : ¬ (j : Int) < (n : Int) := by omega
      obtain rfl : j = n := by omega
      go_wp2
      go_end0
      exact ⟨rfl, dk, hds, HF.out, S1.out⟩

set_option maxHeartbeats 4000000 in
set_option maxRecDepth 1000000 in
theorem rotate_any {k : Nat} (L : SortP P k) (enc : α → List Value) (g : Nat) (cb : Array Value) (blk off cap a m b : Nat) (d0 d : Array α) (w0 w : World)
    (R : RowK enc k w0 blk off d0) (hs : d0.size = d.size) (S : SWK enc k w0 blk off d w) (ham : a < m) (hmb : m < b) (hb : b ≤ d.size) (hsz : d.size < 4611686018427387904) :
    Calls P 80 #[.slice (some ⟨blk, off, none⟩) d.size cap, .int .i64 a, .int .i64 m, .int .i64 b, .func (.func g) #[] cb] w fun e w' =>
      e = .returned (.tuple #[]) ∧ ∃ d' : Array α, d'.size = d.size ∧ (∀ i, d'[i]! = rotF (fun i => d[i]!) a m b i) ∧ SWK enc k w0 blk off d' w' := by
  have mixed := L.mixed; have t3 := L.t3; have a3 := L.a3; have z3 := L.z3; have v3 := L.v3; have t4 := L.t4; have a4 := L.a4; have z4 := L.z4; have v4 := L.v4; have t37 := L.t37; have a37 := L.a37; have z37 := L.z37; have v37 := L.v37; have a96 := L.a96; have z96 := L.z96; have aE := L.aE; have zE := L.zE
  have u37 := run_underlying L.t37
  have e81 : ∀ args w, (callFunc 81 args).run P w = .ok (.enter 81 args) w := enters_of L.f81 (by kernel_rfl) rfl
  have q81 := fun (dk : Array α) (W : World) (h1 : dk.size = d.size) (S' : SWK enc k w0 blk off dk W) (p q n : Nat) (h2 : p + n ≤ q) (h3 : q + n ≤ d.size) => swapRange_any L enc g cb blk off cap p q n d0 dk w0 W R (by omega) S' h2 (by omega) (by omega)
  have Q81 := Lib.hid q81
  have S0 : Aside (SWK enc k w0 blk off d w) := S
  clear S q81
  obtain ⟨i0, hi0⟩ : ∃ i0, i0 = m - a := ⟨_, rfl⟩
  obtain ⟨j0, hj0⟩ : ∃ j0, j0 = b - m := ⟨_, rfl⟩
  have H0 : Hid (∀ x, rotF (fun i => d[i]!) (m - i0) m (m + j0) x = rotF (fun i => d[i]!) a m b x) := Lib.hid (fun x => by rw [show m - i0 = a by omega, show m + j0 = b by omega])
  have e1 : (m : Int) - (a : Int) = (i0 : Int) := by omega
  have e2 : (b : Int) - (m : Int) = (j0 : Int) := by omega
  have hi1 : 0 < i0 := by omega
  have hj1 : 0 < j0 := by omega
  have hi2 : i0 ≤ m := by omega
  have hj2 : m + j0 ≤ d.size := by omega
  clear hi0 hj0
  go_enter L.f80, Try.ntmps80
  go_wp2
  clear e1 e2
  go_loopg [10, 11] (i0 + j0) (fun kx s10 s11 wr => ∃ (i j : Nat) (dk : Array α), s10 = .int .i64 i ∧ s11 = .int .i64 j ∧ 0 < i ∧ 0 < j ∧ i ≤ m ∧ m + j ≤ d.size ∧ i + j ≤ kx ∧ dk.size = d.size ∧ Aside (SWK enc k w0 blk off dk wr) ∧ Hid (∀ x, rotF (fun i => dk[i]!) (m - i) m (m + j) x = rotF (fun i => d[i]!) a m b x))
  case atStart => exact ⟨i0, j0, d, rfl, rfl, hi1, hj1, hi2, hj2, by omega, rfl, S0, H0⟩
  case round =>
    clear S0 H0
    obtain ⟨i, j, dk, rfl, rfl, hi, hj, him, hjm, hkx, hds, S1, HF⟩ := hrel
    obtain ⟨mi, hmi⟩ : ∃ mi, mi = m - i := ⟨_, rfl⟩
    have e1 : (m : Int) - (i : Int) = (mi : Int) := by omega
    rcases Nat.lt_trichotomy i j with hc | hc | hc
    · -- the second part is longer
      obtain ⟨mj, hmj⟩ : ∃ mj, mj = m + j - i := ⟨_, rfl⟩
      have e2 : (m : Int) + (j : Int) - (i : Int) = (mj : Int) := by omega
      have c1 : ((i : Int) != (j : Int)) = true := by rw [bne_iff_ne]; omega
      have c2 : ¬ (i : Int) > (j : Int) := by omega
      have q := Q81.out dk wr hds S1.out mi mj i (by omega) (by omega)
      rw [hds] at q
      have HE := Lib.hid (show mi = m - i ∧ mj = m + j - i from ⟨hmi, hmj⟩)
      clear hmi hmj
      go_wp2_with (go_at_call 81; (with_reducible refine q.mono ?_); rintro e w1 ⟨rfl, d', hd1, hd2, S2⟩; have HD2 := Lib.hid hd2; have S3 : Aside _ := S2; clear hd2 S2)
      go_roundg (i + (j - i))
      case measure => omega
      case rel => exact ⟨i, j - i, d', rfl, by congr 1; omega, hi, by omega, him, by omega, Nat.le_refl _, by omega, S3, Lib.hid (fun x => by
        rw [← HF.out, show (fun i => d'[i]!) = swapF (fun i => dk[i]!) mi mj i from funext HD2.out, HE.out.1, HE.out.2, rot_right _ m i j him hc])⟩
    · -- both of one length
      subst hc
      have c1 : ((i : Int) != (i : Int)) = false := by simp
      have q := Q81.out dk wr hds S1.out mi m i (by omega) (by omega)
      rw [hds] at q
      have HE := Lib.hid hmi
      clear hmi
      go_wp2_with (go_at_call 81; (with_reducible refine q.mono ?_); rintro e w1 ⟨rfl, d', hd1, hd2, S2⟩; have HD2 := Lib.hid hd2; have S3 : Aside _ := S2; clear hd2 S2)
      go_end0
      exact ⟨rfl, d', by omega, fun x => by rw [HD2.out, HE.out, rot_even _ m i him, HF.out], S3.out⟩
    · -- the first part is longer
      have c1 : ((i : Int) != (j : Int)) = true := by rw [bne_iff_ne]; omega
      have c2 : (i : Int) > (j : Int) := by omega
      have q := Q81.out dk wr hds S1.out mi m j (by omega) (by omega)
      rw [hds] at q
      have HE := Lib.hid hmi
      clear hmi
      go_wp2_with (go_at_call 81; (with_reducible refine q.mono ?_); rintro e w1 ⟨rfl, d', hd1, hd2, S2⟩; have HD2 := Lib.hid hd2; have S3 : Aside _ := S2; clear hd2 S2)
      go_roundg (i - j + j)
      case measure => omega
      case rel => exact ⟨i - j, j, d', by congr 1; omega, rfl, by omega, hj, by omega, hjm, Nat.le_refl _, by omega, S3, Lib.hid (fun x => by
        rw [← HF.out, show (fun i => d'[i]!) = swapF (fun i => dk[i]!) mi m j from funext HD2.out, HE.out, rot_left _ m i j him hc])⟩
end
end Go.Proofs.Ytfnmmnbndfdpiaa

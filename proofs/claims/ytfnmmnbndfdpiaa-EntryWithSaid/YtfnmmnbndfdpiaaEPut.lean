/-
  An entry's bytes, its value, the entry of a value: the program's walks and the document's.
-/
import Derived.Test.YtfnmmnbndfdpiaaEPMath
import Derived.Test.YtfnmmnbndfdpiaaEEnts
import Derived.Test.YtfnmmnbndfdpiaaVPut
import Derived.Test.YtfnmmnbndfdpiaaRef2
import Derived.IntWalk
import Derived.Deep.RegionHeld3
namespace Go.Proofs.Ytfnmmnbndfdpiaa
open Go.RowKit Go.Sort

set_option maxHeartbeats 1000000 in
set_option maxRecDepth 100000 in
theorem value_any (e : Ent) (w : World) (hw : e.weight < 4294967296) :
    Calls Try.prog 10 #[.agg (enc e).toArray] w fun z w' => z = .returned (.int .u64 (valueT e : Nat)) ∧ RowKit.Below w.heap.size w w' := by
  obtain ⟨x, n, g⟩ := e
  unfold enc valueT
  simp only at hw ⊢
  cases g
  all_goals
    go_enter Try.func10, Try.ntmps10
    go_wp2
    first
      | exact bodyPost_ret (v := .int .u64 ((n + 1 : Nat) : Int)) (by simp [results, Try.results10, go_sem]) rfl ⟨rfl, below_alloc w _⟩
      | exact bodyPost_ret (v := .int .u64 0) (by simp [results, Try.results10, go_sem]) rfl ⟨rfl, below_alloc w _⟩

set_option maxHeartbeats 1000000 in
set_option maxRecDepth 100000 in
theorem refValue_any (e : Ent) (w : World) (hw : e.weight < 4294967296) :
    Calls Try.prog 11 #[.agg (enc e).toArray] w fun z w' => z = .returned (.int .u64 (valueT e : Nat)) ∧ RowKit.Below w.heap.size w w' := by
  obtain ⟨x, n, g⟩ := e
  unfold enc valueT
  simp only at hw ⊢
  cases g
  all_goals
    go_enter Try.func11, Try.ntmps11
    go_wp2
    first
      | exact bodyPost_ret (v := .int .u64 ((n + 1 : Nat) : Int)) (by simp [results, Try.results11, go_sem]) rfl ⟨rfl, below_alloc w _⟩
      | exact bodyPost_ret (v := .int .u64 0) (by simp [results, Try.results11, go_sem]) rfl ⟨rfl, below_alloc w _⟩

set_option maxHeartbeats 1000000 in
set_option maxRecDepth 100000 in
theorem of_any (x : ByteArray) (n : Nat) (w : World) (hn : n < 18446744073709551616) :
    Calls Try.prog 14 #[.string x, .int .u64 n] w fun z w' => z = .returned (ofE (ofT x n)) ∧ RowKit.Below w.heap.size w w' := by
  by_cases h0 : n = 0
  · subst h0
    rw [show ofT x 0 = (⟨x, 0, true⟩, true) from rfl]
    unfold ofE enc
    go_enter Try.func14, Try.ntmps14
    go_wp2
    exact bodyPost_ret (v := .tuple #[.agg #[.string x, .int .u32 0, .bool true], .bool true]) (by simp [results, Try.results14, go_sem]) rfl ⟨rfl, by repeat (first | exact below_alloc w _ | refine RowKit.Below.setCell ?_ (Nat.le_refl _) _)⟩
  · obtain ⟨m, rfl⟩ : ∃ m, n = m + 1 := ⟨n - 1, by omega⟩
    have e1 : ((m + 1 : Nat) : Int) - 1 = (m : Int) := by omega
    by_cases h1 : m + 1 ≤ 4294967296
    · rw [show ofT x (m + 1) = (⟨x, m, false⟩, true) by unfold ofT; rw [if_neg h0, if_pos h1]; rfl]
      unfold ofE enc
      have g1 : ¬ 4294967295 < (m : Int) := by omega
      go_enter Try.func14, Try.ntmps14
      go_wp2
      exact bodyPost_ret (v := .tuple #[.agg #[.string x, .int .u32 (m : Nat), .bool false], .bool true]) (by simp [results, Try.results14, go_sem]) rfl ⟨rfl, by repeat (first | exact below_alloc w _ | refine RowKit.Below.setCell ?_ (Nat.le_refl _) _)⟩
    · rw [show ofT x (m + 1) = (noE, false) by unfold ofT; rw [if_neg h0, if_neg h1]]
      unfold ofE enc noE
      have g1 : 4294967295 < (m : Int) := by omega
      go_enter Try.func14, Try.ntmps14
      go_wp2
      exact bodyPost_ret (v := .tuple #[.agg #[.string ⟨#[]⟩, .int .u32 0, .bool false], .bool false]) (by simp [results, Try.results14, go_sem]) rfl ⟨rfl, by repeat (first | exact below_alloc w _ | refine RowKit.Below.setCell ?_ (Nat.le_refl _) _)⟩

set_option maxHeartbeats 1000000 in
set_option maxRecDepth 100000 in
theorem refOf_any (x : ByteArray) (n : Nat) (w : World) (hn : n < 18446744073709551616) :
    Calls Try.prog 15 #[.string x, .int .u64 n] w fun z w' => z = .returned (ofE (ofT x n)) ∧ RowKit.Below w.heap.size w w' := by
  by_cases h0 : n = 0
  · subst h0
    rw [show ofT x 0 = (⟨x, 0, true⟩, true) from rfl]
    unfold ofE enc
    go_enter Try.func15, Try.ntmps15
    go_wp2
    exact bodyPost_ret (v := .tuple #[.agg #[.string x, .int .u32 0, .bool true], .bool true]) (by simp [results, Try.results15, go_sem]) rfl ⟨rfl, by repeat (first | exact below_alloc w _ | refine RowKit.Below.setCell ?_ (Nat.le_refl _) _)⟩
  · obtain ⟨m, rfl⟩ : ∃ m, n = m + 1 := ⟨n - 1, by omega⟩
    have e1 : ((m + 1 : Nat) : Int) - 1 = (m : Int) := by omega
    by_cases h1 : m + 1 ≤ 4294967296
    · rw [show ofT x (m + 1) = (⟨x, m, false⟩, true) by unfold ofT; rw [if_neg h0, if_pos h1]; rfl]
      unfold ofE enc
      have g1 : ¬ 4294967296 < (m : Int) + 1 := by omega
      go_enter Try.func15, Try.ntmps15
      go_wp2
      exact bodyPost_ret (v := .tuple #[.agg #[.string x, .int .u32 (m : Nat), .bool false], .bool true]) (by simp [results, Try.results15, go_sem]) rfl ⟨rfl, by repeat (first | exact below_alloc w _ | refine RowKit.Below.setCell ?_ (Nat.le_refl _) _)⟩
    · rw [show ofT x (m + 1) = (noE, false) by unfold ofT; rw [if_neg h0, if_neg h1]]
      unfold ofE enc noE
      have g1 : 4294967296 < (m : Int) + 1 := by omega
      go_enter Try.func15, Try.ntmps15
      go_wp2
      exact bodyPost_ret (v := .tuple #[.agg #[.string ⟨#[]⟩, .int .u32 0, .bool false], .bool false]) (by simp [results, Try.results15, go_sem]) rfl ⟨rfl, by repeat (first | exact below_alloc w _ | refine RowKit.Below.setCell ?_ (Nat.le_refl _) _)⟩

theorem str_eq {a b : ByteArray} (h : a.data.toList = b.data.toList) : a = b := ba_ext h

theorem put_enc (n : Nat) (hn : n < 18446744073709551616) (B : ByteArray) (hB : strO (Plain.enc n) = B) (w : World) (g : Nat) (hc : w.cell? ⟨g, 0, none⟩ = some (.int .u64 n)) :
    Calls Try.prog 32 #[.slice (some ⟨g, 0, none⟩) 1 1] w fun e w' => e = .returned (.string B) ∧ RowKit.Below w.heap.size w w' := by
  refine (put_walk [n] (some ⟨g, 0, none⟩) 1 _ (by simpa using hn) (by simp) ?_).mono ?_
  · intro i hi
    obtain rfl : i = 0 := by simp at hi; omega
    exact ⟨_, _, rfl, by simpa using hc⟩
  · rintro e w' ⟨rfl, hb⟩
    refine ⟨?_, hb⟩
    rw [← hB]
    simp [Plain.encs, strO]

theorem str_join (a b : List UInt8) : (strO a) ++ (strO b) = strO (a ++ b) := ba_ext (by rw [ba_append, strO_key, strO_key, strO_key])
theorem str_data (x : ByteArray) : x = strO x.data.toList := (strO_of x).symm

set_option maxHeartbeats 1000000 in
set_option maxRecDepth 100000 in
theorem eput_any (e : Ent) (w : World) (hw : e.weight < 4294967296) (hs : e.word.size ≤ 1000000) :
    Calls Try.prog 8 #[.agg (enc e).toArray] w fun z w' => z = .returned (putE' (putT e)) ∧ RowKit.Below w.heap.size w w' := by
  obtain ⟨x, n, g⟩ := e
  simp only at hw hs
  obtain ⟨r, hr⟩ : ∃ r, (if wordT x = true then 0 else 7) = r := ⟨_, rfl⟩
  have q31 := fun W g hg => chk_one x r hr (by omega) W g hg
  by_cases hx : wordT x = true
  · rw [if_pos hx] at hr
    subst hr
    cases g
    · rw [show putT ⟨x, n, false⟩ = (1 :: (Plain.enc n ++ x.data.toList), 0) by unfold putT; simp [hx, key]]
      unfold putE' enc
      clear hx
      go_enter Try.func8, Try.ntmps8
      go_wp2_with (go_at_call 31; (with_reducible refine (q31 _ _ (by simp)).mono ?_); rintro e w1 ⟨rfl, rfl⟩)
      generalize hW0 : (w.alloc (.cells #[.string x, .int .u32 (n : Int), .bool false] 24)).alloc (.cells #[.string x] 9) = W0
      have hb0 : RowKit.Below w.heap.size w W0 := by rw [← hW0]; exact below_alloc' (below_alloc w _)
      have hz0 : w.heap.size < W0.heap.size := by rw [← hW0]; simp; omega
      have HK : Hid (∀ W, RowKit.Below W0.heap.size W0 W → W.cell? ⟨w.heap.size, 0, none⟩ = some (.string x) ∧ W.cell? ⟨w.heap.size, 1, none⟩ = some (.int .u32 (n : Int))) := Lib.hid fun W hW => by
        constructor <;> (rw [(bcell hW).1 _ _ hz0, ← hW0]; simp)
      obtain ⟨k0, k1⟩ := HK.out W0 (RowKit.Below.refl _ _)
      obtain ⟨B, hB⟩ : ∃ B, strO (Plain.enc n) = B := ⟨_, rfl⟩
      have q32 := put_enc n (by omega) B hB
      have HB : Hid ((⟨#[1]⟩ : ByteArray) ++ B ++ x = strO (1 :: (Plain.enc n ++ x.data.toList))) := Lib.hid (by rw [← hB, show (⟨#[1]⟩ : ByteArray) = strO [1] from rfl, str_join]; conv => lhs; rw [str_data x, str_join]; simp)
      have hBs : B.size ≤ 9 := by rw [← hB, ← ba_length, strO_key, Plain.enc_length]; exact (Plain.size_bounds (by omega)).2
      have hs1 : ¬ 9223372036854775807 < 1 + B.size := by omega
      have hs2 : ¬ 9223372036854775807 < 1 + B.size + x.size := by omega
      clear hB hW0 q31
      have ew : IntKind.u64.wrap (n : Int) = (n : Int) := IntWalk.u64_in _ (by omega)
      go_region_held3 (fun W => W.cell? ⟨w.heap.size, 0, none⟩ = some (.string x) ∧ W.cell? ⟨w.heap.size, 1, none⟩ = some (.int .u32 (n : Int)) ∧ RowKit.Below W0.heap.size W0 W)
        ((refine (fun hB => ⟨(HK.out _ hB).1, (HK.out _ hB).2, hB⟩ : RowKit.Below W0.heap.size W0 _ → _) ?_; repeat (first | exact RowKit.Below.refl _ _ | (apply below_drew') | (apply below_alloc') | (refine Below.next ?_ hb2))))
        (first | (go_at_call 32; (with_reducible refine (q32 _ _ (by simp)).mono ?_); rintro e w2 ⟨rfl, hb2⟩))
      go_wp2
      go_ret2
      rw [← HB.out]
      exact ⟨rfl, Below.next hb0 (Below.next (below_drew' (below_alloc W0 _)) hb2)⟩
    · rw [show putT ⟨x, n, true⟩ = (2 :: x.data.toList, 0) by unfold putT; simp [hx, key]]
      unfold putE' enc
      clear hx
      go_enter Try.func8, Try.ntmps8
      go_wp2_with (go_at_call 31; (with_reducible refine (q31 _ _ (by simp)).mono ?_); rintro e w1 ⟨rfl, rfl⟩)
      go_ret2
      rw [show strO (2 :: x.data.toList) = (⟨#[2]⟩ : ByteArray) ++ x from by conv => rhs; rw [str_data x, show (⟨#[2]⟩ : ByteArray) = strO [2] from rfl, str_join]; simp]
      exact ⟨rfl, below_alloc' (below_alloc w _)⟩
  · rw [if_neg hx] at hr
    subst hr
    rw [show putT ⟨x, n, g⟩ = ([], 7) by unfold putT; simp [hx]]
    unfold putE' enc
    clear hx
    go_enter Try.func8, Try.ntmps8
    go_wp2_with (go_at_call 31; (with_reducible refine (q31 _ _ (by simp)).mono ?_); rintro e w1 ⟨rfl, rfl⟩)
    go_ret2
    exact ⟨rfl, below_alloc' (below_alloc w _)⟩

set_option maxHeartbeats 1000000 in
set_option maxRecDepth 100000 in
theorem erefPut_any (e : Ent) (w : World) (hw : e.weight < 4294967296) (hs : e.word.size ≤ 1000000) :
    Calls Try.prog 9 #[.agg (enc e).toArray] w fun z w' => z = .returned (putE' (putT e)) ∧ RowKit.Below w.heap.size w w' := by
  obtain ⟨x, n, g⟩ := e
  simp only at hw hs
  obtain ⟨r, hr⟩ : ∃ r : Int, (if wordT x = true then 0 else 7) = r := ⟨_, rfl⟩
  have q33 := fun W => refCheck_any x W (by omega)
  rw [hr] at q33
  by_cases hx : wordT x = true
  · rw [if_pos hx] at hr
    subst hr
    cases g
    · rw [show putT ⟨x, n, false⟩ = (1 :: (Plain.enc n ++ x.data.toList), 0) by unfold putT; simp [hx, key]]
      unfold putE' enc
      clear hx
      go_enter Try.func9, Try.ntmps9
      go_wp2_with (go_at_call 33; (with_reducible refine (q33 _).mono ?_); rintro e w1 ⟨rfl, rfl⟩)
      generalize hW0 : w.alloc (.cells #[.string x, .int .u32 (n : Int), .bool false] 24) = W0
      have hb0 : RowKit.Below w.heap.size w W0 := by rw [← hW0]; exact below_alloc w _
      have hz0 : w.heap.size < W0.heap.size := by rw [← hW0]; simp
      have HK : Hid (∀ W, RowKit.Below W0.heap.size W0 W → W.cell? ⟨w.heap.size, 0, none⟩ = some (.string x) ∧ W.cell? ⟨w.heap.size, 1, none⟩ = some (.int .u32 (n : Int))) := Lib.hid fun W hW => by
        constructor <;> (rw [(bcell hW).1 _ _ hz0, ← hW0]; simp)
      obtain ⟨k0, k1⟩ := HK.out W0 (RowKit.Below.refl _ _)
      obtain ⟨B, hB⟩ : ∃ B, strO (Plain.enc n) = B := ⟨_, rfl⟩
      have q34 : ∀ W, Calls Try.prog 34 #[.int .u64 n] W fun e w' => e = .returned (.string B) ∧ RowKit.Below W.heap.size W w' := fun W => hB ▸ refPut_any n W (by omega)
      have HB : Hid ((⟨#[1]⟩ : ByteArray) ++ B ++ x = strO (1 :: (Plain.enc n ++ x.data.toList))) := Lib.hid (by rw [← hB, show (⟨#[1]⟩ : ByteArray) = strO [1] from rfl, str_join]; conv => lhs; rw [str_data x, str_join]; simp)
      have hBs : B.size ≤ 9 := by rw [← hB, ← ba_length, strO_key, Plain.enc_length]; exact (Plain.size_bounds (by omega)).2
      have hs1 : ¬ 9223372036854775807 < 1 + B.size := by omega
      have hs2 : ¬ 9223372036854775807 < 1 + B.size + x.size := by omega
      clear hB hW0 q33
      have ew : IntKind.u64.wrap (n : Int) = (n : Int) := IntWalk.u64_in _ (by omega)
      go_region_held3 (fun W => W.cell? ⟨w.heap.size, 0, none⟩ = some (.string x) ∧ W.cell? ⟨w.heap.size, 1, none⟩ = some (.int .u32 (n : Int)) ∧ RowKit.Below W0.heap.size W0 W)
        ((refine (fun hB => ⟨(HK.out _ hB).1, (HK.out _ hB).2, hB⟩ : RowKit.Below W0.heap.size W0 _ → _) ?_; repeat (first | exact RowKit.Below.refl _ _ | (apply below_drew') | (apply below_alloc') | (refine Below.next ?_ hb2))))
        (first | (go_at_call 34; (with_reducible refine (q34 _).mono ?_); rintro e w2 ⟨rfl, hb2⟩))
      go_wp2
      go_ret2
      rw [← HB.out]
      exact ⟨rfl, Below.next hb0 (Below.next (below_drew' (RowKit.Below.refl _ _)) hb2)⟩
    · rw [show putT ⟨x, n, true⟩ = (2 :: x.data.toList, 0) by unfold putT; simp [hx, key]]
      unfold putE' enc
      clear hx
      go_enter Try.func9, Try.ntmps9
      go_wp2_with (go_at_call 33; (with_reducible refine (q33 _).mono ?_); rintro e w1 ⟨rfl, rfl⟩)
      go_ret2
      rw [show strO (2 :: x.data.toList) = (⟨#[2]⟩ : ByteArray) ++ x from by conv => rhs; rw [str_data x, show (⟨#[2]⟩ : ByteArray) = strO [2] from rfl, str_join]; simp]
      exact ⟨rfl, below_alloc w _⟩
  · rw [if_neg hx] at hr
    subst hr
    rw [show putT ⟨x, n, g⟩ = ([], 7) by unfold putT; simp [hx]]
    unfold putE' enc
    clear hx
    go_enter Try.func9, Try.ntmps9
    go_wp2_with (go_at_call 33; (with_reducible refine (q33 _).mono ?_); rintro e w1 ⟨rfl, rfl⟩)
    go_ret2
    exact ⟨rfl, below_alloc w _⟩
end Go.Proofs.Ytfnmmnbndfdpiaa

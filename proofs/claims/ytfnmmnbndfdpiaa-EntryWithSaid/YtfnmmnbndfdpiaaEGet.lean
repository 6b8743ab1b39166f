/-
  The entry whose bytes these are: the program's walk and the document's.
-/
import Derived.Test.YtfnmmnbndfdpiaaEPMath
import Derived.Test.YtfnmmnbndfdpiaaEEnts
import Derived.Test.YtfnmmnbndfdpiaaClone
import Derived.Test.YtfnmmnbndfdpiaaRef2
import Derived.IntWalk
namespace Go.Proofs.Ytfnmmnbndfdpiaa
open Go.RowKit Go.Sort

/-- The answer's box, behind a call. -/
theorem box_free {W w1 : World} {v0 v1 v2 : Value} (hb : RowKit.Below (W.alloc (.cells #[v0, v1, v2] 24)).heap.size (W.alloc (.cells #[v0, v1, v2] 24)) w1) :
    w1.frozen? ⟨W.heap.size, 0, none⟩ = false ∧ w1.frozen? ⟨W.heap.size, 1, none⟩ = false ∧ w1.frozen? ⟨W.heap.size, 2, none⟩ = false := by
  have h := (bcell hb).2
  refine ⟨?_, ?_, ?_⟩ <;> (rw [h _ _ (by simp)]; simp)

set_option maxHeartbeats 1000000 in
set_option maxRecDepth 100000 in
theorem checked_any (x : ByteArray) (n : Nat) (g : Bool) (w : World) (hs : x.size ≤ 1000000) :
    Calls Try.prog 36 #[.string x, .int .u32 (n : Int), .bool g] w fun z w' => z = .returned (gotE (chkT x.data.toList n g)) ∧ RowKit.Below w.heap.size w w' := by
  obtain ⟨r, hr⟩ : ∃ r, (if wordT x = true then 0 else 7) = r := ⟨_, rfl⟩
  have q31 := fun W g hg => chk_one x r hr (by omega) W g hg
  have q58 := fun W => clone_any x W (by omega)
  by_cases hx : wordT x = true
  · rw [if_pos hx] at hr
    subst hr
    rw [show chkT x.data.toList n g = (⟨x, n, g⟩, 0) by unfold chkT; rw [strO_of, if_pos hx]]
    unfold gotE enc
    clear hx
    go_enter Try.func36, Try.ntmps36
    go_wp2_with (first | (go_at_call 31; (with_reducible refine (q31 _ _ (by simp)).mono ?_); rintro e w1 ⟨rfl, rfl⟩) | (go_at_call 58; (with_reducible refine (q58 _).mono ?_); rintro e w2 ⟨rfl, hb2⟩; have hb3 := Below.next (below_alloc (w.alloc (.cells #[.string ⟨#[]⟩, .int .u32 0, .bool false] 24)) (.cells #[.string x] 9)) hb2; clear hb2; obtain ⟨k0, k1, k2⟩ := box_kept hb3; obtain ⟨f0, f1, f2⟩ := box_free hb3))
    have hbw := Below.next (below_alloc w _) hb3
    have k3 := set3 k0 k1 k2 (.string x) (.int .u32 (n : Int)) (.bool g)
    have hbw3 := ((hbw.setCell (p := ⟨w.heap.size, 0, none⟩) (Nat.le_refl _) (.string x)).setCell (p := ⟨w.heap.size, 1, none⟩) (Nat.le_refl _) (.int .u32 (n : Int))).setCell (p := ⟨w.heap.size, 2, none⟩) (Nat.le_refl _) (.bool g)
    generalize ((w2.setCell ⟨w.heap.size, 0, none⟩ (.string x)).setCell ⟨w.heap.size, 1, none⟩ (.int .u32 (n : Int))).setCell ⟨w.heap.size, 2, none⟩ (.bool g) = w3 at k3 hbw3 ⊢
    obtain ⟨k4, k5, k6⟩ := k3
    exact bodyPost_ret (v := .tuple #[.agg #[.string x, .int .u32 (n : Int), .bool g], .int .i64 0]) (by simp [results, Try.results36, go_sem, k4, k5, k6]) rfl ⟨rfl, hbw3⟩
  · rw [if_neg hx] at hr
    subst hr
    rw [show chkT x.data.toList n g = (noE, 7) by unfold chkT; rw [strO_of, if_neg hx]]
    unfold gotE enc noE
    clear hx
    go_enter Try.func36, Try.ntmps36
    go_wp2_with (first | (go_at_call 31; (with_reducible refine (q31 _ _ (by simp)).mono ?_); rintro e w1 ⟨rfl, rfl⟩) | (go_at_call 58; (with_reducible refine (q58 _).mono ?_); rintro e w2 ⟨rfl, hb2⟩))
    exact bodyPost_ret (v := .tuple #[.agg #[.string ⟨#[]⟩, .int .u32 0, .bool false], .int .i64 7]) (by simp [results, Try.results36, go_sem]) rfl ⟨rfl, below_alloc' (below_alloc w _)⟩

theorem first_is {s : ByteArray} {b : UInt8} {r : List UInt8} (h : s.data.toList = b :: r) (c : UInt8) : ((s.extract 0 1).toList == [c]) = (b == c) := by
  rw [ByteArray.toList_eq, show (s.extract 0 1).data.toList = [b] by rw [ba_extract, h]; rfl]
  by_cases hbc : b = c <;> simp [hbc]

theorem drop_str (s : ByteArray) (k : Nat) : (s.extract k s.size).data.toList = s.data.toList.drop k := by
  rw [ba_extract, List.take_of_length_le (by rw [List.length_drop, ba_length]; omega)]

/-- The answer out of the box. -/
theorem ret_box {w W : World} {z : Ent} {c : Nat} {f : FuncId} (_h : f = 12) (hb : RowKit.Below (w.alloc (.cells #[.string ⟨#[]⟩, .int .u32 0, .bool false] 24)).heap.size (w.alloc (.cells #[.string ⟨#[]⟩, .int .u32 0, .bool false] 24)) W) (a : Act) (h0 : a.defers = []) (h2 : a.eval (.tmp 3) = .int .i64 (c : Int)) (h1 : a.eval (.tmp 2) = .pointer (some ⟨w.heap.size, 0, none⟩)) :
    bodyPost Try.prog Try.f12 (fun e w' => e = .returned (gotE (z, c)) ∧ RowKit.Below w.heap.size w w') Exit.ret a (((W.setCell ⟨w.heap.size, 0, none⟩ (.string z.word)).setCell ⟨w.heap.size, 1, none⟩ (.int .u32 (z.weight : Int))).setCell ⟨w.heap.size, 2, none⟩ (.bool z.gone)) := by
  obtain ⟨k0, k1, k2⟩ := box_kept hb
  have hbw := Below.next (below_alloc w _) hb
  have k3 := set3 k0 k1 k2 (.string z.word) (.int .u32 (z.weight : Int)) (.bool z.gone)
  have hbw3 := ((hbw.setCell (p := ⟨w.heap.size, 0, none⟩) (Nat.le_refl _) (.string z.word)).setCell (p := ⟨w.heap.size, 1, none⟩) (Nat.le_refl _) (.int .u32 (z.weight : Int))).setCell (p := ⟨w.heap.size, 2, none⟩) (Nat.le_refl _) (.bool z.gone)
  generalize ((W.setCell ⟨w.heap.size, 0, none⟩ (.string z.word)).setCell ⟨w.heap.size, 1, none⟩ (.int .u32 (z.weight : Int))).setCell ⟨w.heap.size, 2, none⟩ (.bool z.gone) = w3 at k3 hbw3 ⊢
  obtain ⟨k4, k5, k6⟩ := k3
  exact bodyPost_ret (v := .tuple #[.agg #[.string z.word, .int .u32 (z.weight : Int), .bool z.gone], .int .i64 (c : Int)]) (by simp [results, Try.results12, go_sem]; simp [go_sem] at h1 h2; simp [h1, h2, go_sem, k4, k5, k6]) h0 ⟨rfl, hbw3⟩

set_option maxHeartbeats 2000000 in
set_option maxRecDepth 100000 in
theorem eget_any (s : ByteArray) (w : World) (hs : s.size ≤ 1000000) :
    Calls Try.prog 12 #[.string s] w fun z w' => z = .returned (gotE (getT s.data.toList)) ∧ RowKit.Below w.heap.size w w' := by
  cases hL : s.data.toList with
  | nil =>
    have he : s.toList.isEmpty = true := by rw [ByteArray.toList_eq, hL]; rfl
    rw [show getT [] = (noE, 3) from rfl]
    unfold gotE enc noE
    clear hL
    go_enter Try.func12, Try.ntmps12
    go_wp2
    exact bodyPost_ret (v := .tuple #[.agg #[.string ⟨#[]⟩, .int .u32 0, .bool false], .int .i64 3]) (by simp [results, Try.results12, go_sem]) rfl ⟨rfl, by repeat (first | exact below_alloc w _ | refine RowKit.Below.setCell ?_ (Nat.le_refl _) _)⟩
  | cons b r =>
    have he : s.toList.isEmpty = false := by rw [ByteArray.toList_eq, hL]; rfl
    have hz : s.size = r.length + 1 := by rw [← ba_length, hL]; rfl
    have hz1 : 1 ≤ s.size := by omega
    have hz2 : 1 ≤ (s.size : Int) := by omega
    clear hz
    have f1 := first_is hL 1
    have f2 := first_is hL 2
    by_cases h1 : b = 1
    · rw [show (b == 1) = true by simp [h1]] at f1
      subst h1
      have q35 := fun w0 => get_any s 1 w0 (by unfold maxLen; omega)
      have herr := Plain.get_err s.data.toList 1
      have hG : getT (1 :: r) = if (Plain.get s.data.toList 1).2.2 ≠ 0 then (noE, (Plain.get s.data.toList 1).2.2) else if 4294967295 < (Plain.get s.data.toList 1).1 then (noE, 17) else chkT (s.data.toList.drop (Plain.get s.data.toList 1).2.1.toNat) (Plain.get s.data.toList 1).1 false := by rw [hL]; rfl
      have hok := @Plain.get_ok s.data.toList 1
      have hlt := Plain.get_lt s.data.toList 1
      obtain ⟨⟨m, p, c⟩, hg⟩ : ∃ g, Plain.get s.data.toList 1 = g := ⟨_, rfl⟩
      rw [hg] at q35 herr hG hok hlt
      simp only at herr hG hok hlt
      unfold gotten at q35
      simp only at q35
      rw [hG]
      clear hG hg hL f2
      rcases herr with rfl | rfl | rfl
      · obtain ⟨k, u, hk, rfl, hu, hku, _⟩ := hok rfl
        obtain rfl : 1 = k := by omega
        clear hk
        rw [ba_length] at hku
        rw [if_neg (by simp)]
        clear hok
        by_cases hm : 4294967295 < m
        · rw [if_pos hm]
          have hm' : 4294967295 < (m : Int) := by omega
          unfold gotE enc noE
          go_enter Try.func12, Try.ntmps12
          go_wp2_with (go_at_call 35; (with_reducible refine (q35 _).mono ?_); rintro e w1 ⟨rfl, rfl⟩)
          exact bodyPost_ret (v := .tuple #[.agg #[.string ⟨#[]⟩, .int .u32 0, .bool false], .int .i64 17]) (by simp [results, Try.results12, go_sem]) rfl ⟨rfl, by repeat (first | exact below_alloc w _ | refine RowKit.Below.setCell ?_ (Nat.le_refl _) _)⟩
        · rw [if_neg hm]
          have hm' : (m : Int) ≤ 4294967295 := by omega
          have q36 := fun w0 => checked_any (s.extract (1 + u) s.size) m false w0 (by rw [ByteArray.size_extract]; omega)
          rw [drop_str, show (1 + u) = (((1 + u : Nat) : Int)).toNat by omega] at q36
          obtain ⟨⟨z, c⟩, hzc⟩ : ∃ t, chkT (s.data.toList.drop (((1 + u : Nat) : Int)).toNat) m false = t := ⟨_, rfl⟩
          rw [hzc] at q36 ⊢
          unfold gotE enc at q36
          clear hzc hm
          simp only [Int.toNat_natCast] at q36
          go_enter Try.func12, Try.ntmps12
          go_wp2_with (first
            | (go_at_call 35; (with_reducible refine (q35 _).mono ?_); rintro e w1 ⟨rfl, rfl⟩)
            | (go_at_call 36; (with_reducible refine (q36 _).mono ?_); rintro e w2 ⟨rfl, hb2⟩; obtain ⟨k0, k1, k2⟩ := box_kept hb2; obtain ⟨f3, f4, f5⟩ := box_free hb2))
          exact ret_box rfl hb2 _ rfl rfl rfl
      all_goals
        clear hok
        rw [if_pos (by simp)]
        unfold gotE enc noE
        go_enter Try.func12, Try.ntmps12
        go_wp2_with (go_at_call 35; (with_reducible refine (q35 _).mono ?_); rintro e w1 ⟨rfl, rfl⟩)
        first
          | exact bodyPost_ret (v := .tuple #[.agg #[.string ⟨#[]⟩, .int .u32 0, .bool false], .int .i64 3]) (by simp [results, Try.results12, go_sem]) rfl ⟨rfl, by repeat (first | exact below_alloc w _ | refine RowKit.Below.setCell ?_ (Nat.le_refl _) _)⟩
          | exact bodyPost_ret (v := .tuple #[.agg #[.string ⟨#[]⟩, .int .u32 0, .bool false], .int .i64 5]) (by simp [results, Try.results12, go_sem]) rfl ⟨rfl, by repeat (first | exact below_alloc w _ | refine RowKit.Below.setCell ?_ (Nat.le_refl _) _)⟩
    · rw [show (b == 1) = false by simp [h1]] at f1
      by_cases h2 : b = 2
      · rw [show (b == 2) = true by simp [h2]] at f2
        subst h2
        have q36 : ∀ w0, Calls Try.prog 36 #[.string (s.extract 1 s.size), .int .u32 0, .bool true] w0 fun z w' => z = .returned (gotE (chkT (s.extract 1 s.size).data.toList 0 true)) ∧ RowKit.Below w0.heap.size w0 w' := fun w0 => checked_any (s.extract 1 s.size) 0 true w0 (by rw [ByteArray.size_extract]; omega)
        rw [drop_str, hL, show List.drop 1 (2 :: r) = r from rfl] at q36
        rw [show getT (2 :: r) = chkT r 0 true from rfl]
        obtain ⟨⟨z, c⟩, hzc⟩ : ∃ t, chkT r 0 true = t := ⟨_, rfl⟩
        rw [hzc] at q36 ⊢
        unfold gotE enc at q36
        clear hzc hL h1
        go_enter Try.func12, Try.ntmps12
        go_wp2_with (go_at_call 36; (with_reducible refine (q36 _).mono ?_); rintro e w2 ⟨rfl, hb2⟩; obtain ⟨k0, k1, k2⟩ := box_kept hb2; obtain ⟨f3, f4, f5⟩ := box_free hb2)
        exact ret_box rfl hb2 _ rfl rfl rfl
      · rw [show (b == 2) = false by simp [h2]] at f2
        rw [show getT (b :: r) = (noE, 6) by show (if b = 1 then _ else _) = _; rw [if_neg h1, if_neg h2]]
        unfold gotE enc noE
        clear hL h1 h2
        go_enter Try.func12, Try.ntmps12
        go_wp2
        exact bodyPost_ret (v := .tuple #[.agg #[.string ⟨#[]⟩, .int .u32 0, .bool false], .int .i64 6]) (by simp [results, Try.results12, go_sem]) rfl ⟨rfl, by repeat (first | exact below_alloc w _ | refine RowKit.Below.setCell ?_ (Nat.le_refl _) _)⟩
end Go.Proofs.Ytfnmmnbndfdpiaa

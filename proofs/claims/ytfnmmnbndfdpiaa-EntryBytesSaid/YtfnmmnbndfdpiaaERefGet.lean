/-
  The entry whose bytes these are: the document's.
-/
import Derived.Test.YtfnmmnbndfdpiaaEGet
namespace Go.Proofs.Ytfnmmnbndfdpiaa
open Go.RowKit Go.Sort

/-- Two boxes behind a call. -/
theorem two_boxes {w w2 : World} {v0 v1 v2 u0 u1 u2 : Value} (hb : RowKit.Below ((w.alloc (.cells #[v0, v1, v2] 24)).alloc (.cells #[u0, u1, u2] 24)).heap.size ((w.alloc (.cells #[v0, v1, v2] 24)).alloc (.cells #[u0, u1, u2] 24)) w2) :
    (w2.cell? ⟨w.heap.size, 0, none⟩ = some v0 ∧ w2.cell? ⟨w.heap.size, 1, none⟩ = some v1 ∧ w2.cell? ⟨w.heap.size, 2, none⟩ = some v2) ∧
    (w2.cell? ⟨w.heap.size + 1, 0, none⟩ = some u0 ∧ w2.cell? ⟨w.heap.size + 1, 1, none⟩ = some u1 ∧ w2.cell? ⟨w.heap.size + 1, 2, none⟩ = some u2) ∧
    (w2.frozen? ⟨w.heap.size, 0, none⟩ = false ∧ w2.frozen? ⟨w.heap.size, 1, none⟩ = false ∧ w2.frozen? ⟨w.heap.size, 2, none⟩ = false) ∧
    (w2.frozen? ⟨w.heap.size + 1, 0, none⟩ = false ∧ w2.frozen? ⟨w.heap.size + 1, 1, none⟩ = false ∧ w2.frozen? ⟨w.heap.size + 1, 2, none⟩ = false) := by
  obtain ⟨hc, hf⟩ := bcell hb
  refine ⟨⟨?_, ?_, ?_⟩, ⟨?_, ?_, ?_⟩, ⟨?_, ?_, ?_⟩, ?_, ?_, ?_⟩
  all_goals (first | rw [hc _ _ (by simp <;> omega)] | rw [hf _ _ (by simp <;> omega)])
  all_goals (try simp)

theorem ret13 {w W : World} {z : Ent} {c : Nat} {v0 v1 v2 : Value} (k0 : W.cell? ⟨w.heap.size, 0, none⟩ = some v0) (k1 : W.cell? ⟨w.heap.size, 1, none⟩ = some v1) (k2 : W.cell? ⟨w.heap.size, 2, none⟩ = some v2) (hbw : RowKit.Below w.heap.size w W)
    (a : Act) (h0 : a.defers = []) (h2 : a.eval (.tmp 3) = .int .i64 (c : Int)) (h1 : a.eval (.tmp 2) = .pointer (some ⟨w.heap.size, 0, none⟩)) :
    bodyPost Try.prog Try.f13 (fun e w' => e = .returned (gotE (z, c)) ∧ RowKit.Below w.heap.size w w') Exit.ret a (((W.setCell ⟨w.heap.size, 0, none⟩ (.string z.word)).setCell ⟨w.heap.size, 1, none⟩ (.int .u32 (z.weight : Int))).setCell ⟨w.heap.size, 2, none⟩ (.bool z.gone)) := by
  have k3 := set3 k0 k1 k2 (.string z.word) (.int .u32 (z.weight : Int)) (.bool z.gone)
  have hbw3 := ((hbw.setCell (p := ⟨w.heap.size, 0, none⟩) (Nat.le_refl _) (.string z.word)).setCell (p := ⟨w.heap.size, 1, none⟩) (Nat.le_refl _) (.int .u32 (z.weight : Int))).setCell (p := ⟨w.heap.size, 2, none⟩) (Nat.le_refl _) (.bool z.gone)
  generalize ((W.setCell ⟨w.heap.size, 0, none⟩ (.string z.word)).setCell ⟨w.heap.size, 1, none⟩ (.int .u32 (z.weight : Int))).setCell ⟨w.heap.size, 2, none⟩ (.bool z.gone) = w3 at k3 hbw3 ⊢
  obtain ⟨k4, k5, k6⟩ := k3
  exact bodyPost_ret (v := .tuple #[.agg #[.string z.word, .int .u32 (z.weight : Int), .bool z.gone], .int .i64 (c : Int)]) (by simp [results, Try.results13, go_sem]; simp [go_sem] at h1 h2; simp [h1, h2, go_sem, k4, k5, k6]) h0 ⟨rfl, hbw3⟩

theorem chk_code (x : ByteArray) (n : Nat) (g : Bool) : chkT x.data.toList n g = if wordT x = true then (⟨x, n, g⟩, 0) else (noE, 7) := by unfold chkT; rw [strO_of]

set_option maxHeartbeats 2000000 in
set_option maxRecDepth 100000 in
theorem erefGet_any (s : ByteArray) (w : World) (hs : s.size ≤ 1000000) :
    Calls Try.prog 13 #[.string s] w fun z w' => z = .returned (gotE (getT s.data.toList)) ∧ RowKit.Below w.heap.size w w' := by
  have hb2' : RowKit.Below w.heap.size w (w.alloc (.cells #[.string ⟨#[]⟩, .int .u32 0, .bool false] 24)) := below_alloc w _
  cases hL : s.data.toList with
  | nil =>
    have he : s.toList.isEmpty = true := by rw [ByteArray.toList_eq, hL]; rfl
    rw [show getT [] = (noE, 3) from rfl]
    unfold gotE enc noE
    clear hL
    go_enter Try.func13, Try.ntmps13
    go_wp2
    exact bodyPost_ret (v := .tuple #[.agg #[.string ⟨#[]⟩, .int .u32 0, .bool false], .int .i64 3]) (by simp [results, Try.results13, go_sem]) rfl ⟨rfl, hb2'⟩
  | cons b r =>
    have he : s.toList.isEmpty = false := by rw [ByteArray.toList_eq, hL]; rfl
    have hz1 : 1 ≤ s.size := by rw [← ba_length, hL]; simp
    have hz2 : 0 < s.size := by omega
    have hbs : s[0] = b := by
      have h : s.data.toList[0]? = some b := by rw [hL]; rfl
      rw [List.getElem?_eq_getElem (by rw [ba_length]; exact hz2), Array.getElem_toList] at h
      injection h
    by_cases h1 : b = 1
    · have e0 : ((s[0].toNat : Nat) : Int) = 1 := by rw [hbs, h1]; rfl
      subst h1
      have q37 := fun w0 => refGet_any s 1 w0 (by unfold maxLen; omega)
      have herr := Plain.get_err s.data.toList 1
      have hG : getT (1 :: r) = if (Plain.get s.data.toList 1).2.2 ≠ 0 then (noE, (Plain.get s.data.toList 1).2.2) else if 4294967295 < (Plain.get s.data.toList 1).1 then (noE, 17) else chkT (s.data.toList.drop (Plain.get s.data.toList 1).2.1.toNat) (Plain.get s.data.toList 1).1 false := by rw [hL]; rfl
      have hok := @Plain.get_ok s.data.toList 1
      have hlt := Plain.get_lt s.data.toList 1
      obtain ⟨⟨m, p, c⟩, hg⟩ : ∃ g, Plain.get s.data.toList 1 = g := ⟨_, rfl⟩
      rw [hg] at q37 herr hG hok hlt
      simp only at herr hG hok hlt
      unfold gotten at q37
      simp only at q37
      rw [hG]
      clear hG hg hL hbs
      rcases herr with rfl | rfl | rfl
      · obtain ⟨k, u, hk, rfl, hu, hku, _⟩ := hok rfl
        obtain rfl : 1 = k := by omega
        clear hk
        rw [ba_length] at hku
        rw [if_neg (by simp)]
        clear hok
        by_cases hm : 4294967295 < m
        · rw [if_pos hm]
          have hm' : 4294967296 ≤ (m : Int) := by omega
          clear hm
          go_enter Try.func13, Try.ntmps13
          go_wp2_with (go_at_call 37; (with_reducible refine (q37 _).mono ?_); rintro e w2 ⟨rfl, hbx⟩; obtain ⟨⟨a0, a1, a2⟩, ⟨b0, b1, b2⟩, ⟨f0, f1, f2⟩, f3, f4, f5⟩ := two_boxes hbx)
          exact ret13 (z := noE) (c := 17) a0 a1 a2 (Below.next (below_alloc' (below_alloc w _)) hbx) _ rfl rfl rfl
        · rw [if_neg hm]
          have hm' : (m : Int) ≤ 4294967295 := by omega
          have hd : decide ((4294967296 : Int) ≤ (m : Int)) = false := decide_eq_false (by omega)
          have q33 := fun w0 => refCheck_any (s.extract (1 + u) s.size) w0 (by rw [ByteArray.size_extract]; omega)
          rw [Int.toNat_natCast, ← drop_str, chk_code]
          by_cases hx : wordT (s.extract (1 + u) s.size) = true
          · rw [if_pos hx] at q33 ⊢
            clear hx hm
            go_enter Try.func13, Try.ntmps13
            go_wp2_with (first
              | (go_at_call 37; (with_reducible refine (q37 _).mono ?_); rintro e w2 ⟨rfl, hbx⟩; obtain ⟨⟨a0, a1, a2⟩, ⟨b0, b1, b2⟩, ⟨f0, f1, f2⟩, f3, f4, f5⟩ := two_boxes hbx)
              | (go_at_call 33; (with_reducible refine (q33 _).mono ?_); rintro e w3 ⟨rfl, rfl⟩))
            have hbw := ((Below.next (below_alloc' (below_alloc w _)) hbx).setCell (p := ⟨w.heap.size + 1, 1, none⟩) (Nat.le_succ _) (.int .u32 (m : Int))).setCell (p := ⟨w.heap.size + 1, 0, none⟩) (Nat.le_succ _) (.string (s.extract (1 + u) s.size))
            have c0 : ((w2.setCell ⟨w.heap.size + 1, 1, none⟩ (.int .u32 (m : Int))).setCell ⟨w.heap.size + 1, 0, none⟩ (.string (s.extract (1 + u) s.size))).cell? ⟨w.heap.size, 0, none⟩ = some (.string ⟨#[]⟩) := by simp [go_sem, a0]
            have c1 : ((w2.setCell ⟨w.heap.size + 1, 1, none⟩ (.int .u32 (m : Int))).setCell ⟨w.heap.size + 1, 0, none⟩ (.string (s.extract (1 + u) s.size))).cell? ⟨w.heap.size, 1, none⟩ = some (.int .u32 0) := by simp [go_sem, a1]
            have c2 : ((w2.setCell ⟨w.heap.size + 1, 1, none⟩ (.int .u32 (m : Int))).setCell ⟨w.heap.size + 1, 0, none⟩ (.string (s.extract (1 + u) s.size))).cell? ⟨w.heap.size, 2, none⟩ = some (.bool false) := by simp [go_sem, a2]
            exact ret13 (z := ⟨s.extract (1 + u) s.size, m, false⟩) (c := 0) c0 c1 c2 hbw _ rfl rfl rfl
          · rw [if_neg hx] at q33 ⊢
            clear hx hm
            go_enter Try.func13, Try.ntmps13
            go_wp2_with (first
              | (go_at_call 37; (with_reducible refine (q37 _).mono ?_); rintro e w2 ⟨rfl, hbx⟩; obtain ⟨⟨a0, a1, a2⟩, ⟨b0, b1, b2⟩, ⟨f0, f1, f2⟩, f3, f4, f5⟩ := two_boxes hbx)
              | (go_at_call 33; (with_reducible refine (q33 _).mono ?_); rintro e w3 ⟨rfl, rfl⟩))
            have hbw := ((Below.next (below_alloc' (below_alloc w _)) hbx).setCell (p := ⟨w.heap.size + 1, 1, none⟩) (Nat.le_succ _) (.int .u32 (m : Int))).setCell (p := ⟨w.heap.size + 1, 0, none⟩) (Nat.le_succ _) (.string (s.extract (1 + u) s.size))
            have c0 : ((w2.setCell ⟨w.heap.size + 1, 1, none⟩ (.int .u32 (m : Int))).setCell ⟨w.heap.size + 1, 0, none⟩ (.string (s.extract (1 + u) s.size))).cell? ⟨w.heap.size, 0, none⟩ = some (.string ⟨#[]⟩) := by simp [go_sem, a0]
            have c1 : ((w2.setCell ⟨w.heap.size + 1, 1, none⟩ (.int .u32 (m : Int))).setCell ⟨w.heap.size + 1, 0, none⟩ (.string (s.extract (1 + u) s.size))).cell? ⟨w.heap.size, 1, none⟩ = some (.int .u32 0) := by simp [go_sem, a1]
            have c2 : ((w2.setCell ⟨w.heap.size + 1, 1, none⟩ (.int .u32 (m : Int))).setCell ⟨w.heap.size + 1, 0, none⟩ (.string (s.extract (1 + u) s.size))).cell? ⟨w.heap.size, 2, none⟩ = some (.bool false) := by simp [go_sem, a2]
            exact ret13 (z := noE) (c := 7) c0 c1 c2 hbw _ rfl rfl rfl
      all_goals
        clear hok
        rw [if_pos (by simp)]
        go_enter Try.func13, Try.ntmps13
        go_wp2_with (go_at_call 37; (with_reducible refine (q37 _).mono ?_); rintro e w2 ⟨rfl, hbx⟩; obtain ⟨⟨a0, a1, a2⟩, ⟨b0, b1, b2⟩, ⟨f0, f1, f2⟩, f3, f4, f5⟩ := two_boxes hbx)
        exact ret13 (z := noE) a0 a1 a2 (Below.next (below_alloc' (below_alloc w _)) hbx) _ rfl rfl rfl
    · by_cases h2 : b = 2
      · have e0 : ((s[0].toNat : Nat) : Int) = 2 := by rw [hbs, h2]; rfl
        subst h2
        have q33 := fun w0 => refCheck_any (s.extract 1 s.size) w0 (by rw [ByteArray.size_extract]; omega)
        rw [show getT (2 :: r) = chkT r 0 true from rfl, show r = (s.extract 1 s.size).data.toList by rw [drop_str, hL]; rfl, chk_code]
        clear hL hbs h1
        by_cases hx : wordT (s.extract 1 s.size) = true
        · rw [if_pos hx] at q33 ⊢
          clear hx
          go_enter Try.func13, Try.ntmps13
          go_wp2_with (go_at_call 33; (with_reducible refine (q33 _).mono ?_); rintro e w3 ⟨rfl, rfl⟩)
          exact bodyPost_ret (v := .tuple #[.agg #[.string (s.extract 1 s.size), .int .u32 0, .bool true], .int .i64 0]) (by simp [results, Try.results13, go_sem]) rfl ⟨rfl, below_alloc' (below_alloc w _)⟩
        · rw [if_neg hx] at q33 ⊢
          clear hx
          go_enter Try.func13, Try.ntmps13
          go_wp2_with (go_at_call 33; (with_reducible refine (q33 _).mono ?_); rintro e w3 ⟨rfl, rfl⟩)
          exact bodyPost_ret (v := .tuple #[.agg #[.string ⟨#[]⟩, .int .u32 0, .bool false], .int .i64 7]) (by simp [results, Try.results13, go_sem]) rfl ⟨rfl, below_alloc' (below_alloc w _)⟩
      · have hb1 : ¬ ((s[0].toNat : Nat) : Int) = 1 := by
          rw [hbs]; intro h
          exact h1 (UInt8.toNat_inj.1 (by show b.toNat = 1; omega))
        have hb3 : ¬ ((s[0].toNat : Nat) : Int) = 2 := by
          rw [hbs]; intro h
          exact h2 (UInt8.toNat_inj.1 (by show b.toNat = 2; omega))
        rw [show getT (b :: r) = (noE, 6) by show (if b = 1 then _ else _) = _; rw [if_neg h1, if_neg h2]]
        unfold gotE enc noE
        clear hL h1 h2 hbs
        have g1 : ((s[0].toNat : Int) != 1) = true := by simp [hb1]
        have g2 : ((s[0].toNat : Int) != 2) = true := by simp [hb3]
        go_enter Try.func13, Try.ntmps13
        go_wp2
        exact bodyPost_ret (v := .tuple #[.agg #[.string ⟨#[]⟩, .int .u32 0, .bool false], .int .i64 6]) (by simp [results, Try.results13, go_sem]) rfl ⟨rfl, hb2'⟩
end Go.Proofs.Ytfnmmnbndfdpiaa

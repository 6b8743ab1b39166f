/-
  The document's reader: fail, char, num. The document's reader: num. Plain mathematics of the document's reading: places, and how great numbers are.
-/
import Derived.Test.YtjiilmiikejnhaaDoorP01
import Derived.Test.YtjiilmiikejnhaaDoorP29
import Derived.Test.YtjiilmiikejnhaaDoorP30
import Derived.BigQuiet
set_option linter.unusedVariables false
set_option linter.unusedSimpArgs false
namespace Go.Proofs.YtjiilmiikejnhaaDoor
open Go.RowKit Go.Shelf Said

def InB (w : World) (q : Nat) (s : ByteArray) (x : IS) : Prop := w.heap[q]? = some (.cells #[.string s, .int .i64 (x.a : Int), .int .i64 (x.c : Int), .int .i64 (x.p : Int)] 109 (0, 0))
theorem InB.lt {w : World} {q : Nat} {s : ByteArray} {x : IS} (h : InB w q s x) : q < w.heap.size := (Array.getElem?_eq_some_iff.1 h).1
theorem InB.at0 {w : World} {q : Nat} {s : ByteArray} {x : IS} (h : InB w q s x) : w.cell? ⟨q, 0, none⟩ = some (.string s) := by rw [cell_of_row w q 0 _ _ _ h]; rfl
theorem InB.at1 {w : World} {q : Nat} {s : ByteArray} {x : IS} (h : InB w q s x) : w.cell? ⟨q, 1, none⟩ = some (.int .i64 (x.a : Int)) := by rw [cell_of_row w q 1 _ _ _ h]; rfl
theorem InB.at2 {w : World} {q : Nat} {s : ByteArray} {x : IS} (h : InB w q s x) : w.cell? ⟨q, 2, none⟩ = some (.int .i64 (x.c : Int)) := by rw [cell_of_row w q 2 _ _ _ h]; rfl
theorem InB.at3 {w : World} {q : Nat} {s : ByteArray} {x : IS} (h : InB w q s x) : w.cell? ⟨q, 3, none⟩ = some (.int .i64 (x.p : Int)) := by rw [cell_of_row w q 3 _ _ _ h]; rfl
theorem InB.free {w : World} {q : Nat} {s : ByteArray} {x : IS} (h : InB w q s x) (o : Nat) : w.frozen? ⟨q, o, none⟩ = false := by
  unfold InB at h
  simp [World.frozen?, h]
theorem InB.kp {w w' : World} {M : Nat → Prop} {q : Nat} {s : ByteArray} {x : IS} (h : InB w q s x) (hk : Kp M w w') (hm : ¬ M q) : InB w' q s x := (hk.block q h.lt hm).trans h
theorem InB.below {w w' : World} {q : Nat} {s : ByteArray} {x : IS} (h : InB w q s x) (hb : Below w.heap.size w w') : InB w' q s x := (hb.block q h.lt).trans h

set_option maxHeartbeats 2000000 in
set_option maxRecDepth 100000 in
theorem fail_any {w : World} {q : Nat} {s : ByteArray} {x : IS} {c p : Nat} (h : InB w q s x) {ci pi : Int} (hc : ci = (c : Int)) (hp : pi = (p : Int)) :
    Calls Tryd.prog 56 #[.pointer (some ⟨q, 0, none⟩), .int .i64 ci, .int .i64 pi] w fun e w' => e = .returned (.tuple #[]) ∧ InB w' q s (x.fail c p) ∧ Kp (fun g => g = q) w w' := by
  subst hc hp
  obtain ⟨a, d, r⟩ := x
  have h2 := h.at2
  have h3 := h.at3
  have f2 := h.free 2
  have f3 := h.free 3
  simp only at h2 h3
  by_cases hd : d = 0
  · subst hd
    have h2' : w.cell? ⟨q, 2, none⟩ = some (.int .i64 0) := h2
    have hf : IS.fail ⟨a, 0, r⟩ c p = ⟨a, c, p⟩ := rfl
    rw [hf]
    have HI := Lib.hid (show InB ((w.setCell ⟨q, 2, none⟩ (.int .i64 (c : Int))).setCell ⟨q, 3, none⟩ (.int .i64 (p : Int))) q s ⟨a, c, p⟩ from cells_setCell (cells_setCell h 2 _) 3 _)
    have HK := Lib.hid ((kp_set w q 2 (.int .i64 (c : Int))).trans (kp_set _ q 3 (.int .i64 (p : Int))) (fun g e => .inl e))
    clear h h2
    go_enter Tryd.func56, Tryd.ntmps56
    go_wp2
    go_end0
    exact ⟨rfl, HI.out, HK.out⟩
  · have hf : IS.fail ⟨a, d, r⟩ c p = ⟨a, d, r⟩ := IS.fail_bad hd c p
    rw [hf]
    have hd0 : ((d : Int) == 0) = false := by rw [beq_eq_false_iff_ne]; omega
    have HI := Lib.hid h
    clear h
    go_enter Tryd.func56, Tryd.ntmps56
    go_wp2
    go_end0
    exact ⟨rfl, HI.out, Kp.refl _ _⟩

theorem getD_data {s : ByteArray} {a : Nat} (h : a < s.size) : s.data.toList.getD a 0 = s[a] := by
  simp [List.getD, h]
  rfl

set_option maxHeartbeats 2000000 in
set_option maxRecDepth 100000 in
theorem char_any {w : World} {q : Nat} {s : ByteArray} {x : IS} (h : InB w q s x) (hs : s.size ≤ 1000000) (ha : x.a ≤ 2000000) :
    Calls Tryd.prog 55 #[.pointer (some ⟨q, 0, none⟩)] w fun e w' => e = .returned (.int .u8 ((x.char s.data.toList).1 : Int)) ∧ InB w' q s (x.char s.data.toList).2 ∧ Kp (fun g => g = q) w w' := by
  obtain ⟨a, d, r⟩ := x
  have h0 := h.at0
  have h1 := h.at1
  have h2 := h.at2
  have f1 := h.free 1
  simp only at h1 h2 ha
  by_cases hd : d = 0
  · subst hd
    have h2' : w.cell? ⟨q, 2, none⟩ = some (.int .i64 0) := h2
    by_cases hlt : a < s.size
    · have hf : IS.char s.data.toList ⟨a, 0, r⟩ = ((s[a]).toNat, ⟨a + 1, 0, r⟩) := by
        unfold IS.char
        rw [if_pos rfl, if_pos (show a < s.data.toList.length from hlt), getD_data hlt]
      rw [hf]
      have il : (a : Int) < (s.size : Int) := by omega
      have d1 : decide ((s.size : Int) ≤ (a : Int)) = false := by simp; omega
      have d11 : decide (s.size ≤ a) = false := by simp; omega
      have HI0 := Lib.hid h
      clear h h2 hf
      go_enter Tryd.func55, Tryd.ntmps55
      go_wp2
      go_quiet (fail)
      have HI2 := Lib.hid (show InB (w.drewN nq) q s ⟨a, 0, r⟩ from HI0.out.below (below_drewN (Below.refl _ _) nq))
      have HK2 := Lib.hid (Kp.below (M := fun g => g = q) (below_drewN (Below.refl w.heap.size w) nq))
      generalize w.drewN nq = w2 at HI2 HK2 ⊢
      have h0 := HI2.out.at0
      have h1 := HI2.out.at1
      have h2 := HI2.out.at2
      have f1 := HI2.out.free 1
      simp only at h1 h2
      go_wp2
      have HI3 := Lib.hid (show InB (w2.setCell ⟨q, 1, none⟩ (.int .i64 ((a : Int) + 1))) q s ⟨a + 1, 0, r⟩ from by
        have := cells_setCell HI2.out 1 (.int .i64 ((a : Int) + 1))
        exact this)
      have HK3 := Lib.hid (HK2.out.trans (kp_set w2 q 1 (.int .i64 ((a : Int) + 1))) (fun g e => .inl e))
      generalize w2.setCell ⟨q, 1, none⟩ (.int .i64 ((a : Int) + 1)) = w3 at HI3 HK3 ⊢
      have h0 := HI3.out.at0
      have h1 := HI3.out.at1
      simp only at h1
      have hsub : ((a + 1 : Nat) : Int) - 1 = (a : Int) := by omega
      go_quiet (fail)
      have HI4 := Lib.hid (show InB (w3.drewN nq) q s ⟨a + 1, 0, r⟩ from HI3.out.below (below_drewN (Below.refl _ _) nq))
      have HK4 := Lib.hid (HK3.out.trans (Kp.below (M := fun g => g = q) (below_drewN (Below.refl w3.heap.size w3) nq)) (fun g e => .inl e))
      generalize w3.drewN nq = w4 at HI4 HK4 ⊢
      go_wp2
      go_ret
      exact ⟨rfl, HI4.out, HK4.out⟩
    · have hf : IS.char s.data.toList ⟨a, 0, r⟩ = (0, ⟨a, 3, a⟩) := by
        unfold IS.char
        rw [if_pos rfl, if_neg (show ¬ a < s.data.toList.length from hlt)]
      rw [hf]
      have d1 : decide ((s.size : Int) ≤ (a : Int)) = true := by simp; omega
      have d11 : decide (s.size ≤ a) = true := by simp; omega
      have HI0 := Lib.hid h
      clear h h2 hf
      go_enter Tryd.func55, Tryd.ntmps55
      go_wp2
      go_quiet (fail)
      have HI2 := Lib.hid (show InB (w.drewN nq) q s ⟨a, 0, r⟩ from HI0.out.below (below_drewN (Below.refl _ _) nq))
      have HK2 := Lib.hid (Kp.below (M := fun g => g = q) (below_drewN (Below.refl w.heap.size w) nq))
      generalize w.drewN nq = w2 at HI2 HK2 ⊢
      have h1 := HI2.out.at1
      simp only at h1
      have QF := Lib.hid (fail_any (ci := 3) (pi := (a : Int)) (c := 3) (p := a) HI2.out rfl rfl)
      go_wp2_with (go_at_call 56
                   (with_reducible refine QF.out.mono ?_)
                   go_loud (
                   rintro e' w3 ⟨rfl, hi3, hk3⟩
                   have H3 := Lib.hid (And.intro hi3 (HK2.out.trans hk3 (fun g e => .inl e)))
                   clear hi3 hk3))
      go_ret
      exact ⟨rfl, H3.out.1, H3.out.2⟩
  · have hf : IS.char s.data.toList ⟨a, d, r⟩ = (0, ⟨a, d, r⟩) := IS.char_bad hd
    rw [hf]
    have hd0 : ((d : Int) == 0) = false := by rw [beq_eq_false_iff_ne]; omega
    have HI := Lib.hid h
    clear h hf
    go_enter Tryd.func55, Tryd.ntmps55
    go_wp2
    go_ret
    exact ⟨rfl, HI.out, Kp.refl _ _⟩
end Go.Proofs.YtjiilmiikejnhaaDoor
namespace Go.Proofs.YtjiilmiikejnhaaDoor
open Go.RowKit Go.Shelf Said

set_option maxHeartbeats 4000000 in
set_option maxRecDepth 100000 in
theorem num_any {w : World} {q : Nat} {s : ByteArray} {x : IS} {lo hi : Nat} (h : InB w q s x) (hs : s.size ≤ 1000000) (hlo : lo < 18446744073709551616) (hhi : hi < 18446744073709551616) {li hi' : Int} (e1 : li = (lo : Int)) (e2 : hi' = (hi : Int)) :
    Calls Tryd.prog 57 #[.pointer (some ⟨q, 0, none⟩), .int .u64 li, .int .u64 hi'] w fun e w' => e = .returned (.int .u64 ((x.num s.data.toList lo hi).1 : Int)) ∧ InB w' q s (x.num s.data.toList lo hi).2 ∧ Kp (fun g => g = q) w w' := by
  subst e1 e2
  obtain ⟨a, d, r⟩ := x
  have h0 := h.at0
  have h1 := h.at1
  have h2 := h.at2
  simp only at h1 h2
  by_cases hd : d = 0
  · subst hd
    have h2' : w.cell? ⟨q, 2, none⟩ = some (.int .i64 0) := h2
    obtain ⟨n, nx, e, hg⟩ : ∃ n nx e, Plain.get s.data.toList (a : Int) = (n, nx, e) := ⟨_, _, _, rfl⟩
    have hn64 : n < 18446744073709551616 := by have := Plain.get_lt s.data.toList (a : Int); rw [hg] at this; exact this
    have hq := quiet_call (w := w) fun W _ => refGet_any s (a : Int) W (by unfold maxLen; omega)
    rw [hg] at hq
    unfold gotten at hq
    dsimp only at hq
    have HB : Hid (∀ W, Below w.heap.size w W → InB W q s ⟨a, 0, r⟩) := Lib.hid fun W hb => h.below hb
    have k3 : ∀ d os, (Sort.grow (redrawn w d) os).cell? ⟨q, 0, none⟩ = some (.string s) ∧ (Sort.grow (redrawn w d) os).cell? ⟨q, 1, none⟩ = some (.int .i64 (a : Int)) := fun d os => by
      have := HB.out _ (below_regrown w d os)
      exact ⟨this.at0, this.at1⟩
    have k4 := fun d os => (k3 d os).1
    have k5 := fun d os => (k3 d os).2
    have hnum : IS.num s.data.toList ⟨a, 0, r⟩ lo hi = if e ≠ 0 then (0, ⟨a, e, a⟩) else if n < lo ∨ hi < n then (0, ⟨a, 17, a⟩) else (n, ⟨nx.toNat, 0, r⟩) := by
      unfold IS.num numR
      rw [if_pos rfl, hg]
      dsimp only
      by_cases he : e ≠ 0
      · rw [if_pos he, if_pos he]
      · rw [if_neg he, if_neg he]
        by_cases hr : n < lo ∨ hi < n
        · rw [if_pos hr, if_pos hr]
        · rw [if_neg hr, if_neg hr]
    have hnx : e = 0 → ∃ m : Nat, nx = (m : Int) := fun he => by
      obtain ⟨k', u, _, h2, _⟩ := Plain.get_ok (s := s.data.toList) (p := (a : Int)) (by rw [hg]; exact he)
      rw [hg] at h2
      exact ⟨_, h2⟩
    obtain ⟨R, hR⟩ : ∃ R, IS.num s.data.toList ⟨a, 0, r⟩ lo hi = R := ⟨_, rfl⟩
    rw [hR]
    rw [hR] at hnum
    have HNUM := Lib.hid hnum
    have HN := Lib.hid (And.intro hg hnx)
    clear k3 h h2 hnum hg hnx hR
    go_enter Tryd.func57, Tryd.ntmps57
    go_wp2
    refine wp_region_quiet_below (by kernel_rfl) (by kernel_rfl) ?_
    repeat (quiet_step (first | (go_at_call 77; with_reducible exact hq _ _)))
    refine wpQuiet_nil ?_
    intro _ hw'
    obtain ⟨⟨dq, osq⟩, hw''⟩ := hw'
    subst hw''
    have hb2 := below_regrown w dq osq
    have HI2 := Lib.hid (HB.out _ hb2)
    have HK2 := Lib.hid (Kp.below (M := fun g => g = q) hb2)
    clear hq k4 k5 h0 h1 h2' hb2
    generalize Sort.grow (redrawn w dq) osq = w2 at HI2 HK2 ⊢
    have h1 := HI2.out.at1
    have f1 := HI2.out.free 1
    simp only at h1
    by_cases he : e ≠ 0
    · have HE := Lib.hid (show R = (0, ⟨a, e, a⟩) by rw [HNUM.out, if_pos he])
      have d1 : ((e : Int) == 0) = false := by rw [beq_eq_false_iff_ne]; omega
      have QF := Lib.hid (fail_any (ci := (e : Int)) (pi := (a : Int)) (c := e) (p := a) HI2.out rfl rfl)
      clear he
      go_wp2_with (go_at_call 56
                   (with_reducible refine QF.out.mono ?_)
                   go_loud (
                   rintro e' w3 ⟨rfl, hi3, hk3⟩
                   have H3 := Lib.hid (And.intro hi3 (HK2.out.trans hk3 (fun g e => .inl e)))
                   clear hi3 hk3))
      go_ret
      exact ⟨by rw [HE.out]; rfl, by rw [HE.out]; exact H3.out.1, H3.out.2⟩
    · have HNE := Lib.hid he
      have he0 : e = 0 := by omega
      subst he0
      by_cases hr : n < lo ∨ hi < n
      · have HE := Lib.hid (show R = (0, ⟨a, 17, a⟩) by rw [HNUM.out, if_neg HNE.out, if_pos hr])
        have QF := Lib.hid (fail_any (ci := 17) (pi := (a : Int)) (c := 17) (p := a) HI2.out rfl rfl)
        rcases (show decide ((n : Int) < (lo : Int)) = true ∧ decide (n < lo) = true ∨ (decide ((n : Int) < (lo : Int)) = false ∧ decide (n < lo) = false ∧ decide ((hi : Int) < (n : Int)) = true ∧ decide (hi < n) = true) by
          rcases Nat.lt_or_ge n lo with h | h
          · exact .inl ⟨by simp; omega, by simp; omega⟩
          · exact .inr ⟨by simp; omega, by simp; omega, by simp; omega, by simp; omega⟩) with ⟨d1, d11⟩ | ⟨d1, d11, d2, d22⟩
        all_goals (
          clear hr he
          go_wp2_with (go_at_call 56
                       (with_reducible refine QF.out.mono ?_)
                       go_loud (
                       rintro e' w3 ⟨rfl, hi3, hk3⟩
                       have H3 := Lib.hid (And.intro hi3 (HK2.out.trans hk3 (fun g e => .inl e)))
                       clear hi3 hk3))
          go_ret
          exact ⟨by rw [HE.out]; rfl, by rw [HE.out]; exact H3.out.1, H3.out.2⟩)
      · have HE0 := Lib.hid (show R = (n, ⟨nx.toNat, 0, r⟩) by rw [HNUM.out, if_neg HNE.out, if_neg hr])
        obtain ⟨m, hm⟩ := HN.out.2 rfl
        subst hm
        have HE := Lib.hid (show R = (n, ⟨m, 0, r⟩) by rw [HE0.out]; simp)
        have d1 : decide ((n : Int) < (lo : Int)) = false := by simp; omega
        have d11 : decide (n < lo) = false := by simp; omega
        have d2 : decide ((hi : Int) < (n : Int)) = false := by simp; omega
        have d22 : decide (hi < n) = false := by simp; omega
        have HI3 := Lib.hid (show InB (w2.setCell ⟨q, 1, none⟩ (.int .i64 (m : Int))) q s ⟨m, 0, r⟩ from cells_setCell HI2.out 1 _)
        have HK3 := Lib.hid (HK2.out.trans (kp_set w2 q 1 (.int .i64 (m : Int))) (fun g e => .inl e))
        clear hr he
        go_wp2
        go_ret
        exact ⟨by rw [HE.out]; rfl, by rw [HE.out]; exact HI3.out, HK3.out⟩
  · have hf : IS.num s.data.toList ⟨a, d, r⟩ lo hi = (0, ⟨a, d, r⟩) := IS.num_bad hd _ _
    rw [hf]
    have hd0 : ((d : Int) == 0) = false := by rw [beq_eq_false_iff_ne]; omega
    have HI := Lib.hid h
    clear h hf
    go_enter Tryd.func57, Tryd.ntmps57
    go_wp2
    go_ret
    exact ⟨rfl, HI.out, Kp.refl _ _⟩
end Go.Proofs.YtjiilmiikejnhaaDoor
namespace Go.Proofs.YtjiilmiikejnhaaDoor
open Go.RowKit Go.Shelf

theorem IS.fail_le {s : List UInt8} {x : IS} (h : x.a ≤ s.length) (c p : Nat) : (x.fail c p).a ≤ s.length := by
  unfold IS.fail
  split <;> exact h
theorem IS.char_le {s : List UInt8} {x : IS} (h : x.a ≤ s.length) : (x.char s).2.a ≤ s.length := by
  unfold IS.char
  split
  · split
    · assumption
    · exact h
  · exact h
theorem IS.num_le {s : List UInt8} {x : IS} (h : x.a ≤ s.length) (lo hi : Nat) : (x.num s lo hi).2.a ≤ s.length ∧ x.a ≤ (x.num s lo hi).2.a := by
  unfold IS.num
  split
  · split
    · rename_i k b hk
      have := numR_ok hk
      exact ⟨this.2.2.2.2.2, by show x.a ≤ b; omega⟩
    · exact ⟨h, Nat.le_refl _⟩
  · exact ⟨h, Nat.le_refl _⟩
theorem IS.char_mono {s : List UInt8} {x : IS} : x.a ≤ (x.char s).2.a := by
  unfold IS.char
  split
  · split
    · exact Nat.le_succ _
    · exact Nat.le_refl _
  · exact Nat.le_refl _
theorem IS.char_byte {s : List UInt8} {x : IS} : (x.char s).1 < 256 := by
  unfold IS.char
  split
  · split
    · exact UInt8.toNat_lt _
    · show (0 : Nat) < 256; decide
  · show (0 : Nat) < 256; decide
theorem IS.num_hi {s : List UInt8} {x : IS} {lo hi : Nat} (hh : hi < 18446744073709551616) : (x.num s lo hi).1 ≤ hi ∧ (x.num s lo hi).1 < 18446744073709551616 := by
  unfold IS.num
  split
  · split
    · rename_i k b hk
      have := numR_ok hk
      exact ⟨this.2.2.1, this.2.2.2.1⟩
    · exact ⟨Nat.zero_le _, by show (0 : Nat) < _; decide⟩
  · exact ⟨Nat.zero_le _, by show (0 : Nat) < _; decide⟩
theorem IS.num_lt {s : List UInt8} {x : IS} (hc : x.c = 0) {lo hi : Nat} (h : (x.num s lo hi).2.c = 0) : x.a < (x.num s lo hi).2.a := by
  unfold IS.num at h ⊢
  rw [if_pos hc] at h ⊢
  split at h
  · rename_i k b hk
    exact (numR_ok hk).2.2.2.2.1
  · rename_i c p hk
    have h' : c = 0 := h
    exact absurd h' (numR_err hk).2
theorem arcG_le {s : List UInt8} {own : Nat} {x : IS} (h : x.a ≤ s.length) : (arcG s own x).2.a ≤ s.length ∧ x.a ≤ (arcG s own x).2.a := by
  unfold arcG
  dsimp only
  have h1 := IS.char_le h
  have h2 := IS.num_le h1 0 top64
  have h3 := IS.num_le h2.1 1 own
  have h0 := IS.char_mono (s := s) (x := x)
  exact ⟨h3.1, by omega⟩
theorem arcsG_le {s : List UInt8} {own : Nat} : ∀ (k : Nat) (x : IS) (acc : List DArc), x.a ≤ s.length → (arcsG s own k x acc).2.a ≤ s.length ∧ x.a ≤ (arcsG s own k x acc).2.a
  | 0, x, acc, h => ⟨h, Nat.le_refl _⟩
  | k + 1, x, acc, h => by
    unfold arcsG
    split
    · have h1 := arcG_le (own := own) h
      have h2 := arcsG_le (own := own) k (arcG s own x).2 (acc ++ [(arcG s own x).1]) h1.1
      exact ⟨h2.1, by omega⟩
    · exact ⟨h, Nat.le_refl _⟩
theorem arcsG_c {s : List UInt8} {own : Nat} : ∀ (k : Nat) (x : IS) (acc : List DArc), (arcsG s own k x acc).2.c = 0 → x.c = 0
  | 0, x, acc, h => h
  | k + 1, x, acc, h => by
    by_cases hc : x.c = 0
    · exact hc
    · rw [arcsG_bad hc] at h
      exact h
theorem outG_le {s : List UInt8} {f : Bool} {x : IS} (h : x.a ≤ s.length) : (outG s f x).2.a ≤ s.length ∧ x.a ≤ (outG s f x).2.a := by
  unfold outG
  split
  · exact IS.num_le h _ _
  · exact ⟨h, Nat.le_refl _⟩
theorem outG_c {s : List UInt8} {f : Bool} {x : IS} (h : (outG s f x).2.c = 0) : x.c = 0 := by
  by_cases hc : x.c = 0
  · exact hc
  · unfold outG at h
    split at h
    · rw [IS.num_bad hc] at h; exact h
    · exact h
theorem stG_le {s : List UInt8} {own : Nat} {x : IS} (h : x.a ≤ s.length) : (stG s own x).2.a ≤ s.length := by
  unfold stG
  dsimp only
  exact (arcsG_le _ _ _ (outG_le (IS.num_le h 0 513).1).1).1
theorem stG_lt {s : List UInt8} {own : Nat} {x : IS} (h : x.a ≤ s.length) (hc : x.c = 0) (h0 : (stG s own x).2.c = 0) : x.a < (stG s own x).2.a := by
  unfold stG at h0 ⊢
  dsimp only at h0 ⊢
  have h1 := arcsG_c _ _ _ h0
  have h2 := outG_c h1
  have h3 := IS.num_lt hc h2
  have h4 := IS.num_le h 0 513
  have h5 := outG_le (f := (x.num s 0 513).1 % 2 == 1) h4.1
  have h6 := arcsG_le (own := own) ((x.num s 0 513).1 / 2) _ [] h5.1
  omega
theorem magG_le {s : List UInt8} {x : IS} (h : x.a ≤ s.length) (i : Nat) : (magG s x i).a ≤ s.length := by
  unfold magG
  split
  · exact IS.char_le h
  · exact IS.fail_le (IS.char_le h) _ _
end Go.Proofs.YtjiilmiikejnhaaDoor

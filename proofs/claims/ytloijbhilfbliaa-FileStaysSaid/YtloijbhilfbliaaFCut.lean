/-
  A file cut, synced, copied, read in parts: the calls.
-/
import Derived.Test.YtloijbhilfbliaaFNew
import Derived.Deep.DeepCutAuto
namespace Go.Proofs.Ytloijbhilfbliaa
open Go.RowKit Go.Shelf

/-- What a cut answers. -/
def cutE (R : List UInt8) (n : Int) : Int := if n < 0 ∨ (R.length : Int) < n then 17 else 0

theorem len_drew {w : World} {p : Nat} {D : List UInt8} {A : List Do} {M I : Nat → Prop} (h : FileAt w p D A M I) (k : Nat) :
    Calls Try.prog 15 #[.pointer (some ⟨p, 0, none⟩)] (w.drewN k) fun e w' => e = .returned (.int .i64 ((reads D A).length : Nat)) ∧ w' = w.drewN k := by
  refine (len_any (h.same (w' := w.drewN k) (fun _ _ => rfl) (Nat.le_refl _))).mono ?_
  rintro e w' ⟨rfl, rfl⟩
  exact ⟨rfl, rfl⟩

theorem below_drewN' {w0 w : World} {n : Nat} (h : Below w0.heap.size w0 w) : Below w0.heap.size w0 (w.drewN n) := h.trans ⟨rfl, rfl, rfl, Nat.le_refl _, fun _ _ => rfl⟩

set_option maxHeartbeats 1000000 in
set_option maxRecDepth 100000 in
theorem cut_any {w : World} {p : Nat} {D : List UInt8} {A : List Do} {M I : Nat → Prop} {n : Int} (h : FileAt w p D A M I) (hlen : A.length ≤ 1000) (h1 : -9223372036854775808 ≤ n) (h2 : n ≤ 9223372036854775807) :
    Calls Try.prog 16 #[.pointer (some ⟨p, 0, none⟩), .int .i64 n] w (Went w p D (cutT (reads D A) A n) M I (.int .i64 (cutE (reads D A) n))) := by
  have HF := Lib.hid h
  have hsm := Nat.le_trans (reads_length D A) h.small
  obtain ⟨R, hR⟩ : ∃ R, reads D A = R := ⟨_, rfl⟩
  have Q15 : Hid (∀ W, Below w.heap.size w W → ∀ k, Calls Try.prog 15 #[.pointer (some ⟨p, 0, none⟩)] (W.drewN k) fun e w' => e = .returned (.int .i64 (R.length : Nat)) ∧ w' = W.drewN k) := Lib.hid fun W hW k => by rw [← hR]; exact len_drew (h.below hW) k
  by_cases hneg : n < 0
  · have HP : Hid (∀ W, Below w.heap.size w W → Went w p D (cutT (reads D A) A n) M I (.int .i64 (cutE (reads D A) n)) (.returned (.int .i64 17)) W) := Lib.hid fun W hW => ⟨by unfold cutE; rw [if_pos (.inl hneg)], M, I, by unfold cutT; rw [if_neg (by omega)]; exact HF.out.below hW, fun g h => .inl h, fun g h => .inl h, Kept.below hW⟩
    clear h hR
    have d1 : decide (n < 0) = true := decide_eq_true hneg
    go_enter Try.func16, Try.ntmps16
    go_wp2
    go_quiet (fail)
    go_wp2
    go_ret
    exact HP.out _ (below_drewN' (below_alloc' (Below.refl _ w)))
  · have d1 : decide (n < 0) = false := decide_eq_false hneg
    obtain ⟨m, rfl⟩ : ∃ m : Nat, n = (m : Int) := ⟨n.toNat, by omega⟩
    by_cases hgt : R.length < m
    · have HP : Hid (∀ W, Below w.heap.size w W → Went w p D (cutT (reads D A) A m) M I (.int .i64 (cutE (reads D A) m)) (.returned (.int .i64 17)) W) := Lib.hid fun W hW => ⟨by unfold cutE; rw [hR, if_pos (.inr (by omega))], M, I, by unfold cutT; rw [hR, if_neg (by omega)]; exact HF.out.below hW, fun g h => .inl h, fun g h => .inl h, Kept.below hW⟩
      have d2 : decide (R.length < m) = true := decide_eq_true hgt
      clear h hR
      go_enter Try.func16, Try.ntmps16
      go_wp2
      go_quiet ((go_at_call 15; exact Calls.quiet_of_same (Q15.out _ (below_alloc' (Below.refl _ w)) _)))
      go_wp2
      go_ret
      exact HP.out _ (below_drewN' (below_alloc' (Below.refl _ w)))
    · have d2 : decide (R.length < m) = false := decide_eq_false hgt
      by_cases heq : m = R.length
      · have HP : Hid (∀ W, Below w.heap.size w W → Went w p D (cutT (reads D A) A m) M I (.int .i64 (cutE (reads D A) m)) (.returned (.int .i64 0)) W) := Lib.hid fun W hW => ⟨by unfold cutE; rw [hR, if_neg (by omega)], M, I, by unfold cutT; rw [hR, if_neg (by omega)]; exact HF.out.below hW, fun g h => .inl h, fun g h => .inl h, Kept.below hW⟩
        have d3 : decide (m < R.length) = false := decide_eq_false (by omega)
        clear h hR heq
        go_enter Try.func16, Try.ntmps16
        go_wp2
        go_quiet ((go_at_call 15; exact Calls.quiet_of_same (Q15.out _ (below_alloc' (Below.refl _ w)) _)))
        have hbW : Below w.heap.size w (World.drewN (w.alloc (.cells #[.int .i64 (m : Int)] 3)) nq) := below_drewN' (below_alloc' (Below.refl _ w))
        have kW : (World.drewN (w.alloc (.cells #[.int .i64 (m : Int)] 3)) nq).cell? ⟨w.heap.size, 0, none⟩ = some (.int .i64 (m : Int)) := box_at (heap_alloc_new w _)
        generalize World.drewN (w.alloc (.cells #[.int .i64 (m : Int)] 3)) nq = w2 at hbW kW ⊢
        go_wp2
        go_quiet ((go_at_call 15; exact Calls.quiet_of_same (Q15.out _ hbW _)))
        go_wp2
        go_ret
        exact HP.out _ (below_drewN' hbW)
      · have hlt : m < R.length := by omega
        have d3 : decide (m < R.length) = true := decide_eq_true hlt
        have Q26 : Hid (∀ W, Below w.heap.size w W → W.heap[w.heap.size]? = some (.cells #[.int .i64 (m : Int)] 3 (0, 0)) → Calls Try.prog 26 #[.pointer (some ⟨p, 0, none⟩), .func (.func 36) #[] #[.pointer (some ⟨w.heap.size, 0, none⟩)]] W fun e w' => e = .returned (.tuple #[]) ∧ Went w p D (cutT (reads D A) A m) M I (.int .i64 (cutE (reads D A) m)) (.returned (.int .i64 0)) w') := Lib.hid fun W hW hbx => by
          refine (do_cut (HF.out.below hW) (n := m) (J := fun g => g = w.heap.size) ⟨_, rfl, hbx, rfl⟩ (fun g hg => ?_) (by rw [hR]; exact hlt) HF.out.small hlen).mono ?_
          · subst hg
            exact ⟨(Array.getElem?_eq_some_iff.1 hbx).1, fun hm => by have := HF.out.mem _ (.inl hm); omega⟩
          · rintro e w' ⟨rfl, M', h1, h2, h3⟩
            refine ⟨rfl, by unfold cutE; rw [hR, if_neg (by omega)], M', _, by unfold cutT; rw [hR, if_pos (by omega)]; exact h1, fun g hg => ?_, fun g hg => ?_, (Kept.below hW).trans h3 (fun g hg => .inl hg)⟩
            · rcases h2 g hg with h | h
              · exact .inl h
              · exact .inr (by have := hW.size; omega)
            · rcases hg with hg | rfl
              · exact .inl hg
              · exact .inr (Nat.le_refl _)
        clear h hR heq
        go_enter Try.func16, Try.ntmps16
        go_wp2
        go_quiet ((go_at_call 15; exact Calls.quiet_of_same (Q15.out _ (below_alloc' (Below.refl _ w)) _)))
        have hbW : Below w.heap.size w (World.drewN (w.alloc (.cells #[.int .i64 (m : Int)] 3)) nq) := below_drewN' (below_alloc' (Below.refl _ w))
        have bW : (World.drewN (w.alloc (.cells #[.int .i64 (m : Int)] 3)) nq).heap[w.heap.size]? = some (.cells #[.int .i64 (m : Int)] 3 (0, 0)) := heap_alloc_new w _
        generalize World.drewN (w.alloc (.cells #[.int .i64 (m : Int)] 3)) nq = w2 at hbW bW ⊢
        have kW := box_at bW
        have BW := Lib.hid bW
        clear bW
        go_wp2
        go_quiet ((go_at_call 15; exact Calls.quiet_of_same (Q15.out _ hbW _)))
        have Q26' := Lib.hid (Q26.out (w2.drewN nq) (below_drewN' hbW) BW.out)
        go_wp2_with (go_at_call 26; (with_reducible refine Q26'.out.mono ?_); rintro e w3 ⟨rfl, hd⟩; have HD := Lib.hid hd; clear hd)
        go_ret
        exact HD.out

set_option maxHeartbeats 1000000 in
set_option maxRecDepth 100000 in
theorem sync_any {w : World} {p : Nat} {D : List UInt8} {A : List Do} {M I : Nat → Prop} (h : FileAt w p D A M I) :
    Calls Try.prog 10 #[.pointer (some ⟨p, 0, none⟩)] w (Went w p (reads D A) [] M I (.int .i64 0)) := by
  obtain ⟨dv, av, rv, fs, ht, hd, hr, ha, hA, hs, m0, m1, m2, m3⟩ := h.it
  have ht : Trio w p dv av rv := ht
  have k2 := ht.at2
  have hsm := Nat.le_trans (reads_length D A) h.small
  obtain ⟨ad, c, rfl, _, _⟩ := hr.shape
  have pr : ∀ g, (Value.slice ad (reads D A).length c).ownBlock = some g → g ≠ p := fun g hg => by
    obtain ⟨cs, fz, hc⟩ := hr.mem hg
    exact two_types hc ht (by decide)
  have Q23 : Hid (Calls Try.prog 23 #[.pointer (some ⟨p, 0, none⟩), .slice ad (reads D A).length c] w fun e w' => e = .returned (.tuple #[]) ∧ Went w p (reads D A) [] M I (.int .i64 0) (.returned (.int .i64 0)) w') := Lib.hid (by
    refine (settle_any ht).mono ?_
    rintro e w' ⟨rfl, t, g⟩
    have hr' : BRow w' (.slice ad (reads D A).length c) (reads D A) := hr.same fun k hk => g.block k (hr.own_lt k hk) (fun e => pr k hk (by cases e; rfl))
    refine ⟨rfl, rfl, _, I, settled t hr' hsm (fun k hk => ⟨Nat.lt_of_lt_of_le (h.mem k (.inr hk)) g.size, fun e => h.apart k hk (by rw [e]; exact m0), fun e => h.apart k hk (m2 k e)⟩), fun k hk => ?_, fun k hk => .inl hk, Kept.grown g (fun k e => by cases e; exact m0)⟩
    rcases hk with rfl | hk
    · exact .inl m0
    · exact .inl (m2 k hk))
  clear h ht hd hr ha hA hs m0 m1 m2 m3 pr
  go_enter Try.func10, Try.ntmps10
  go_wp2_with (go_at_call 23; (with_reducible refine Q23.out.mono ?_); rintro e w1 ⟨rfl, hd⟩; have HD := Lib.hid hd; clear hd)
  go_ret
  exact HD.out
end Go.Proofs.Ytloijbhilfbliaa

/-
  A file cut, synced, copied, read in parts: the calls. A file read in parts, and copied.
-/
import Derived.Test.YtmmoilmfpiclgaaGreatT07
import Derived.Deep.DeepCutAuto
set_option linter.unusedVariables false
set_option linter.unusedSimpArgs false
namespace Go.Proofs.YtmmoilmfpiclgaaGreat
open Go.RowKit Go.Shelf

/-- What a cut answers. -/
def cutE (R : List UInt8) (n : Int) : Int := if n < 0 ∨ (R.length : Int) < n then 17 else 0

theorem len_drew {w : World} {p : Nat} {D : List UInt8} {A : List Do} {M I : Nat → Prop} (h : FileAt w p D A M I) (k : Nat) :
    Calls Tryz.prog 91 #[.pointer (some ⟨p, 0, none⟩)] (w.drewN k) fun e w' => e = .returned (.int .i64 ((reads D A).length : Nat)) ∧ w' = w.drewN k := by
  refine (len_any (h.same (w' := w.drewN k) (fun _ _ => rfl) (Nat.le_refl _))).mono ?_
  rintro e w' ⟨rfl, rfl⟩
  exact ⟨rfl, rfl⟩

theorem below_drewN' {w0 w : World} {n : Nat} (h : Below w0.heap.size w0 w) : Below w0.heap.size w0 (w.drewN n) := h.trans ⟨rfl, rfl, rfl, Nat.le_refl _, fun _ _ => rfl⟩

set_option maxHeartbeats 1000000 in
set_option maxRecDepth 100000 in
theorem cut_any {w : World} {p : Nat} {D : List UInt8} {A : List Do} {M I : Nat → Prop} {n : Int} (h : FileAt w p D A M I) (hlen : A.length ≤ 1000) (h1 : -9223372036854775808 ≤ n) (h2 : n ≤ 9223372036854775807) :
    Calls Tryz.prog 76 #[.pointer (some ⟨p, 0, none⟩), .int .i64 n] w (Went w p D (cutT (reads D A) A n) M I (.int .i64 (cutE (reads D A) n))) := by
  have HF := Lib.hid h
  have hsm := Nat.le_trans (reads_length D A) h.small
  obtain ⟨R, hR⟩ : ∃ R, reads D A = R := ⟨_, rfl⟩
  have Q15 : Hid (∀ W, Below w.heap.size w W → ∀ k, Calls Tryz.prog 91 #[.pointer (some ⟨p, 0, none⟩)] (W.drewN k) fun e w' => e = .returned (.int .i64 (R.length : Nat)) ∧ w' = W.drewN k) := Lib.hid fun W hW k => by rw [← hR]; exact len_drew (h.below hW) k
  by_cases hneg : n < 0
  · have HP : Hid (∀ W, Below w.heap.size w W → Went w p D (cutT (reads D A) A n) M I (.int .i64 (cutE (reads D A) n)) (.returned (.int .i64 17)) W) := Lib.hid fun W hW => ⟨by unfold cutE; rw [if_pos (.inl hneg)], M, I, by unfold cutT; rw [if_neg (by omega)]; exact HF.out.below hW, fun g h => .inl h, fun g h => .inl h, Kept.below hW⟩
    clear h hR
    have d1 : decide (n < 0) = true := decide_eq_true hneg
    go_enter Tryz.func76, Tryz.ntmps76
    go_wp2
    go_quiet (fail)
    go_wp2
    go_ret
    exact HP.out _ (below_drewN' (below_alloc' (Below.refl _ w)))
  · have d1 : decide (n < 0) = false := decide_eq_false hneg
    obtain ⟨m, rfl⟩ : ∃ m : Nat, n = (m : Int) := ⟨n.toNat, by omega⟩
    by_cases hgt : R.length < m
    · have HP : Hid (∀ W, Below w.heap.size w W → Went w p D (cutT (reads D A) A m) M I (.int .i64 (cutE (reads D A) m)) (.returned (.int .i64 17)) W) := Lib.hid fun W hW => ⟨by unfold cutE; rw [hR, if_pos (.inr (by omega))], M, I, by unfold cutT; rw [hR, if_neg (by omega)]; exact HF.out.below hW, fun g h => .inl h, fun g h => .inl h, Kept.below hW⟩
      have d2 : decide (R.length < m) = true := decide_eq_true hgt
      clear h hR
      go_enter Tryz.func76, Tryz.ntmps76
      go_wp2
      go_quiet ((go_at_call 91; exact Calls.quiet_of_same (Q15.out _ (below_alloc' (Below.refl _ w)) _)))
      go_wp2
      go_ret
      exact HP.out _ (below_drewN' (below_alloc' (Below.refl _ w)))
    · have d2 : decide (R.length < m) = false := decide_eq_false hgt
      by_cases heq : m = R.length
      · have HP : Hid (∀ W, Below w.heap.size w W → Went w p D (cutT (reads D A) A m) M I (.int .i64 (cutE (reads D A) m)) (.returned (.int .i64 0)) W) := Lib.hid fun W hW => ⟨by unfold cutE; rw [hR, if_neg (by omega)], M, I, by unfold cutT; rw [hR, if_neg (by omega)]; exact HF.out.below hW, fun g h => .inl h, fun g h => .inl h, Kept.below hW⟩
        have d3 : decide (m < R.length) = false := decide_eq_false (by omega)
        clear h hR heq
        go_enter Tryz.func76, Tryz.ntmps76
        go_wp2
        go_quiet ((go_at_call 91; exact Calls.quiet_of_same (Q15.out _ (below_alloc' (Below.refl _ w)) _)))
        have hbW : Below w.heap.size w (World.drewN (w.alloc (.cells #[.int .i64 (m : Int)] 3)) nq) := below_drewN' (below_alloc' (Below.refl _ w))
        have kW : (World.drewN (w.alloc (.cells #[.int .i64 (m : Int)] 3)) nq).cell? ⟨w.heap.size, 0, none⟩ = some (.int .i64 (m : Int)) := box_at (heap_alloc_new w _)
        generalize World.drewN (w.alloc (.cells #[.int .i64 (m : Int)] 3)) nq = w2 at hbW kW ⊢
        go_wp2
        go_quiet ((go_at_call 91; exact Calls.quiet_of_same (Q15.out _ hbW _)))
        go_wp2
        go_ret
        exact HP.out _ (below_drewN' hbW)
      · have hlt : m < R.length := by omega
        have d3 : decide (m < R.length) = true := decide_eq_true hlt
        have Q26 : Hid (∀ W, Below w.heap.size w W → W.heap[w.heap.size]? = some (.cells #[.int .i64 (m : Int)] 3 (0, 0)) → Calls Tryz.prog 113 #[.pointer (some ⟨p, 0, none⟩), .func (.func 132) #[] #[.pointer (some ⟨w.heap.size, 0, none⟩)]] W fun e w' => e = .returned (.tuple #[]) ∧ Went w p D (cutT (reads D A) A m) M I (.int .i64 (cutE (reads D A) m)) (.returned (.int .i64 0)) w') := Lib.hid fun W hW hbx => by
          refine (do_cut (HF.out.below hW) (n := m) (J := fun g => g = w.heap.size) ⟨_, rfl, hbx, rfl⟩ (fun g hg => ?_) (by rw [hR]; exact hlt) HF.out.small hlen).mono ?_
          · subst hg
            exact ⟨(Array.getElem?_eq_some_iff.1 hbx).1, fun hm => by have := HF.out.mem _ (.inl hm); omega⟩
          · rintro e w' ⟨rfl, M', h1, h2, h3⟩
            refine ⟨rfl, by unfold cutE; rw [hR, if_neg (by omega)], M', _, by unfold cutT; rw [hR, if_pos (by omega)]; exact h1, fun g hg => ?_, fun g hg => ?_, (Kept.below hW).trans h3 (fun g hg => .inl hg)⟩
            · rcases h2 g hg with h | h
              · exact .inl h
              · exact .inr (by have := hW.size; omega)
            · rcases hg with hg | rfl
              · exact .inl hg
              · exact .inr (Nat.le_refl _)
        clear h hR heq
        go_enter Tryz.func76, Tryz.ntmps76
        go_wp2
        go_quiet ((go_at_call 91; exact Calls.quiet_of_same (Q15.out _ (below_alloc' (Below.refl _ w)) _)))
        have hbW : Below w.heap.size w (World.drewN (w.alloc (.cells #[.int .i64 (m : Int)] 3)) nq) := below_drewN' (below_alloc' (Below.refl _ w))
        have bW : (World.drewN (w.alloc (.cells #[.int .i64 (m : Int)] 3)) nq).heap[w.heap.size]? = some (.cells #[.int .i64 (m : Int)] 3 (0, 0)) := heap_alloc_new w _
        generalize World.drewN (w.alloc (.cells #[.int .i64 (m : Int)] 3)) nq = w2 at hbW bW ⊢
        have kW := box_at bW
        have BW := Lib.hid bW
        clear bW
        go_wp2
        go_quiet ((go_at_call 91; exact Calls.quiet_of_same (Q15.out _ hbW _)))
        have Q26' := Lib.hid (Q26.out (w2.drewN nq) (below_drewN' hbW) BW.out)
        go_wp2_with (go_at_call 113; (with_reducible refine Q26'.out.mono ?_); rintro e w3 ⟨rfl, hd⟩; have HD := Lib.hid hd; clear hd)
        go_ret
        exact HD.out

set_option maxHeartbeats 1000000 in
set_option maxRecDepth 100000 in
theorem sync_any {w : World} {p : Nat} {D : List UInt8} {A : List Do} {M I : Nat → Prop} (h : FileAt w p D A M I) :
    Calls Tryz.prog 78 #[.pointer (some ⟨p, 0, none⟩)] w (Went w p (reads D A) [] M I (.int .i64 0)) := by
  obtain ⟨dv, av, rv, fs, ht, hd, hr, ha, hA, hs, m0, m1, m2, m3⟩ := h.it
  have ht : Trio w p dv av rv := ht
  have k2 := ht.at2
  have hsm := Nat.le_trans (reads_length D A) h.small
  obtain ⟨ad, c, rfl, _, _⟩ := hr.shape
  have pr : ∀ g, (Value.slice ad (reads D A).length c).ownBlock = some g → g ≠ p := fun g hg => by
    obtain ⟨cs, fz, hc⟩ := hr.mem hg
    exact two_types hc ht (by decide)
  have Q23 : Hid (Calls Tryz.prog 95 #[.pointer (some ⟨p, 0, none⟩), .slice ad (reads D A).length c] w fun e w' => e = .returned (.tuple #[]) ∧ Went w p (reads D A) [] M I (.int .i64 0) (.returned (.int .i64 0)) w') := Lib.hid (by
    refine (settle_any ht).mono ?_
    rintro e w' ⟨rfl, t, g⟩
    have hr' : BRow w' (.slice ad (reads D A).length c) (reads D A) := hr.same fun k hk => g.block k (hr.own_lt k hk) (fun e => pr k hk (by cases e; rfl))
    refine ⟨rfl, rfl, _, I, settled t hr' hsm (fun k hk => ⟨Nat.lt_of_lt_of_le (h.mem k (.inr hk)) g.size, fun e => h.apart k hk (by rw [e]; exact m0), fun e => h.apart k hk (m2 k e)⟩), fun k hk => ?_, fun k hk => .inl hk, Kept.grown g (fun k e => by cases e; exact m0)⟩
    rcases hk with rfl | hk
    · exact .inl m0
    · exact .inl (m2 k hk))
  clear h ht hd hr ha hA hs m0 m1 m2 m3 pr
  go_enter Tryz.func78, Tryz.ntmps78
  go_wp2_with (go_at_call 95; (with_reducible refine Q23.out.mono ?_); rintro e w1 ⟨rfl, hd⟩; have HD := Lib.hid hd; clear hd)
  go_ret
  exact HD.out
end Go.Proofs.YtmmoilmfpiclgaaGreat
namespace Go.Proofs.YtmmoilmfpiclgaaGreat
open Go.RowKit Go.Shelf

/-- What is read from a place on. -/
def readE (R : List UInt8) (a n : Int) : Int := if a < 0 ∨ n < 0 ∨ (R.length : Int) < a then 17 else 0
def readT (R : List UInt8) (a n : Int) : List UInt8 := if a < 0 ∨ n < 0 ∨ (R.length : Int) < a then [] else (R.drop a.toNat).take n.toNat

/-- A slice within a row of bytes. -/
def BPart (w : World) (v : Value) (l : List UInt8) : Prop := ∃ ad c, v = .slice ad l.length c ∧ l.length ≤ c ∧ c ≤ 9223372036854775807 ∧ ∀ j (_ : j < l.length), ∃ b o, ad = some ⟨b, o, none⟩ ∧ w.cell? ⟨b, o + j, none⟩ = some (.int .u8 ((l.getD j 0).toNat : Int))

theorem BRow.part {w : World} {v : Value} {l : List UInt8} (h : BRow w v l) : BPart w v l := by
  rcases id h with ⟨rfl, rfl⟩ | ⟨g, cap, cs, rfl, h1, h2, hb, ht⟩
  · exact ⟨none, 0, rfl, Nat.le_refl _, by omega, fun j hj => by simp at hj⟩
  · refine ⟨_, cap, rfl, h1, h2, fun j hj => ⟨g, 0, rfl, ?_⟩⟩
    have hx : (bys l)[j]? = some (.int .u8 ((l.getD j 0).toNat : Int)) := by simp [bys, hj]
    rw [Nat.zero_add]
    exact h.cells.2 j _ hx

theorem BPart.take {w : World} {ad : Option Addr} {n c m : Nat} {l : List UInt8} (h : BPart w (.slice ad n c) l) (hm : m ≤ n) : BPart w (.slice ad m c) (l.take m) := by
  obtain ⟨ad', c', hv, h1, h2, h3⟩ := h
  cases hv
  have hl : (l.take m).length = m := by rw [List.length_take]; omega
  refine ⟨ad, c, by rw [hl], by rw [hl]; omega, h2, fun j hj => ?_⟩
  rw [hl] at hj
  obtain ⟨b, o, ha, hc⟩ := h3 j (by omega)
  refine ⟨b, o, ha, ?_⟩
  rw [hc]
  simp [List.getD, hj]

theorem BPart.drop {w : World} {ad : Option Addr} {n c p : Nat} {l : List UInt8} (h : BPart w (.slice ad n c) l) (hp : p ≤ n) : BPart w (.slice (if c = p then ad else Option.map (fun x => x.add p) ad) (n - p) (c - p)) (l.drop p) := by
  obtain ⟨ad', c', hv, h1, h2, h3⟩ := h
  cases hv
  refine ⟨_, _, by rw [List.length_drop], by rw [List.length_drop]; omega, by omega, fun j hj => ?_⟩
  rw [List.length_drop] at hj
  obtain ⟨b, o, ha, hc⟩ := h3 (p + j) (by omega)
  refine ⟨b, o + p, ?_, ?_⟩
  · rw [if_neg (by omega), ha]
    simp only [Option.map_some]
    rw [Addr.add_lit]
  · rw [show o + p + j = o + (p + j) by omega, hc]
    simp [List.getD]

set_option maxRecDepth 100000 in
theorem conv_part {w : World} {v : Value} {l : List UInt8} (h : BPart w v l) : (convert 121 9 v).run Tryz.prog w = .ok (.string ⟨l.toArray⟩) w := by
  obtain ⟨ad, c, rfl, h1, h2, h3⟩ := h
  by_cases hl : l = []
  · subst hl
    cases ad with
    | none => kernel_rfl
    | some a => kernel_rfl
  · obtain ⟨b, o, rfl, _⟩ := h3 0 (List.length_pos_iff.2 hl)
    have hcv := run_convert_bytes_arg (P := Tryz.prog) w 121 5 Tryz.underlying121 Tryz.underlying5 b o l.length c (l.map fun x => (x.toNat : Int)) (by simp) (fun i hi => by
      obtain ⟨b', o', ha, hc⟩ := h3 i hi
      cases ha
      rw [hc]
      congr 2
      simp [List.getD, hi]) 9 Tryz.underlying9
    rw [hcv]
    congr 2
    apply ByteArray.ext
    apply Array.toList_inj.1
    rw [strOfNums_data, List.map_map]
    show _ = l
    conv => rhs; rw [← List.map_id l]
    apply List.map_congr_left
    intro y _
    simp

set_option maxHeartbeats 1000000 in
set_option maxRecDepth 100000 in
theorem readAt_any {w : World} {p : Nat} {D : List UInt8} {A : List Do} {M I : Nat → Prop} {a n : Int} (h : FileAt w p D A M I) (h1 : -9223372036854775808 ≤ n) (h2 : n ≤ 9223372036854775807) (h3 : a ≤ 9223372036854775807) :
    Calls Tryz.prog 80 #[.pointer (some ⟨p, 0, none⟩), .int .i64 a, .int .i64 n] w fun e w' => e = .returned (.tuple #[.string ⟨(readT (reads D A) a n).toArray⟩, .int .i64 (readE (reads D A) a n)]) ∧ w = w' := by
  have q15 := len_any h
  obtain ⟨dv, av, rv, fs, ht, hd, hr, ha, hA, hs, m0, m1, m2, m3⟩ := h.it
  have k2 := (show Trio w p dv av rv from ht).at2
  have hsm := Nat.le_trans (reads_length D A) h.small
  obtain ⟨R, hR⟩ : ∃ R, reads D A = R := ⟨_, rfl⟩
  rw [hR] at q15 hr hsm ⊢
  have Q15 := Lib.hid q15
  by_cases hbad : a < 0 ∨ n < 0 ∨ (R.length : Int) < a
  · have e1 : readT R a n = [] := by unfold readT; rw [if_pos hbad]
    have e2 : readE R a n = 17 := by unfold readE; rw [if_pos hbad]
    rw [e1, e2]
    clear h ht hd hr ha hA hs m0 m1 m2 m3 q15 e1 e2 hR
    by_cases c1 : a < 0
    · clear hbad
      go_enter Tryz.func80, Tryz.ntmps80
      go_wp2
      go_ret2
      exact ⟨rfl, rfl⟩
    · by_cases c2 : n < 0
      · clear hbad
        go_enter Tryz.func80, Tryz.ntmps80
        go_wp2
        go_ret2
        exact ⟨rfl, rfl⟩
      · have c3 : (R.length : Int) < a := by omega
        clear hbad
        go_enter Tryz.func80, Tryz.ntmps80
        go_wp2_with (go_at_call 91; (with_reducible refine Q15.out.mono ?_); rintro e w1 ⟨rfl, rfl⟩)
        go_ret2
        exact ⟨rfl, rfl⟩
  · obtain ⟨m, rfl⟩ : ∃ m : Nat, a = (m : Int) := ⟨a.toNat, by omega⟩
    obtain ⟨k, rfl⟩ : ∃ k : Nat, n = (k : Int) := ⟨n.toNat, by omega⟩
    have e1 : readT R m k = (R.drop m).take (upTo k (R.length - m)) := by
      unfold readT
      rw [if_neg hbad]
      have : upTo k (R.length - m) = min k (R.length - m) := by unfold upTo; omega
      rw [this, Int.toNat_natCast, Int.toNat_natCast]
      rcases Nat.le_total k (R.length - m) with hle | hle
      · rw [Nat.min_eq_left hle]
      · rw [Nat.min_eq_right hle, List.take_of_length_le (by rw [List.length_drop]; exact hle), List.take_of_length_le (by rw [List.length_drop]; omega)]
    have e2 : readE R m k = 0 := by unfold readE; rw [if_neg hbad]
    rw [e1, e2]
    have d1 : decide (R.length < m) = false := decide_eq_false (by omega)
    have hmR : m ≤ R.length := by omega
    obtain ⟨ad, c, rfl, hc1, hc2⟩ := hr.shape
    have hp1 := hr.part.drop hmR
    have hp2 := hp1.take (m := upTo k (R.length - m)) (by unfold upTo; omega)
    have hcv := conv_part hp2
    obtain ⟨X, hX⟩ : ∃ X : ByteArray, ⟨((R.drop m).take (upTo k (R.length - m))).toArray⟩ = X := ⟨_, rfl⟩
    rw [hX] at hcv ⊢
    have q39 : Calls Tryz.prog 119 #[.slice (if c = m then ad else Option.map (fun x => x.add m) ad) (R.length - m) (c - m), .int .i64 (k : Int)] w fun e w' => e = .returned (.slice (if c = m then ad else Option.map (fun x => x.add m) ad) (upTo k (R.length - m)) (c - m)) ∧ w = w' := first_bytes (by omega) (by omega) h1 h2
    clear h ht hd hr ha hA hs m0 m1 m2 m3 q15 e1 e2 hR hX hp1 hp2
    by_cases hcm : c = m
    · subst hcm
      rw [if_pos rfl, Nat.sub_self, show R.length - c = 0 by omega] at hcv q39
      have Q39 := Lib.hid q39
      clear q39
      go_enter Tryz.func80, Tryz.ntmps80
      go_wp2_with (first
        | (go_at_call 91; (with_reducible refine Q15.out.mono ?_); rintro e w1 ⟨rfl, rfl⟩)
        | (go_at_call 119; (with_reducible refine Q39.out.mono ?_); rintro e w1 ⟨rfl, rfl⟩))
      go_ret2
      exact ⟨rfl, rfl⟩
    · rw [if_neg hcm] at hcv q39
      have Q39 := Lib.hid q39
      clear q39
      go_enter Tryz.func80, Tryz.ntmps80
      go_wp2_with (first
        | (go_at_call 91; (with_reducible refine Q15.out.mono ?_); rintro e w1 ⟨rfl, rfl⟩)
        | (go_at_call 119; (with_reducible refine Q39.out.mono ?_); rintro e w1 ⟨rfl, rfl⟩))
      go_ret2
      exact ⟨rfl, rfl⟩
end Go.Proofs.YtmmoilmfpiclgaaGreat

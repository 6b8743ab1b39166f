/-
  Acts done one behind the other; a choice held against what there is.
-/
import Derived.Test.YtloijbhilfbliaaFDo
namespace Go.Proofs.Ytloijbhilfbliaa
open Go.RowKit Go.Shelf

/-- Where a row of bytes has come to: its block is the old one, or a new one; of the old blocks just that one may have turned. -/
def Trail (w w' : World) (v v' : Value) : Prop := (v'.ownBlock = v.ownBlock ∨ ∃ g, v'.ownBlock = some g ∧ w.heap.size ≤ g) ∧ w.grownBy w' v.ownBlock

theorem Trail.refl (w : World) (v : Value) : Trail w w v v := ⟨.inl rfl, rfl, rfl, rfl, Nat.le_refl _, fun _ _ _ => rfl⟩
theorem Trail.next {w w1 w2 : World} {v v1 v2 : Value} (h : Trail w w1 v v1) (ho : Onto w1 w2 v1 v2) : Trail w w2 v v2 := by
  obtain ⟨h1, h2⟩ := h
  have hg := ho.grown
  refine ⟨?_, hg.os.trans h2.os, hg.tape.trans h2.tape, hg.output.trans h2.output, Nat.le_trans h2.size hg.size, fun k hk hn => ?_⟩
  · rcases ho with ⟨q1, _, _⟩ | ⟨⟨g, q1, q2⟩, _⟩
    · rw [q1]; exact h1
    · exact .inr ⟨g, q1, Nat.le_trans h2.size q2⟩
  · refine (hg.block k (Nat.lt_of_lt_of_le hk h2.size) (fun e => ?_)).trans (h2.block k hk hn)
    rcases h1 with h1 | ⟨g, h1, h3⟩
    · exact hn (e.trans h1)
    · rw [h1] at e; cases e; omega

set_option maxHeartbeats 1000000 in
set_option maxRecDepth 100000 in
theorem behind_any {w : World} {v : Value} {R : List UInt8} {fs : List Value} {A : List Do} {I : Nat → Prop} {ad : Option Addr} {c : Nat} (hv : BRow w v R) (hA : ActsAt w fs A I) (hfit : Fits R A) (hbulk : bulk R A ≤ 900000) (hlen : A.length ≤ 1000)
    (hrow : ∀ k, k < A.length → ∃ b o, ad = some ⟨b, o, none⟩ ∧ w.cell? ⟨b, o + k, none⟩ = fs[k]? ∧ v.ownBlock ≠ some b) (hI : ∀ g, I g → g < w.heap.size ∧ v.ownBlock ≠ some g) :
    Calls Try.prog 38 #[v, .slice ad A.length c] w fun e w' => ∃ v', e = .returned v' ∧ BRow w' v' (reads R A) ∧ Trail w w' v v' := by
  have HV := Lib.hid hv
  have HA := Lib.hid hA
  have HF := Lib.hid hfit
  have HR := Lib.hid hrow
  have HI := Lib.hid hI
  clear hv hA hfit hrow hI
  go_enter Try.func38, Try.ntmps38
  go_wp2
  go_loopw [0, 9] (fun s0 s9 wr => ∃ k : Nat, k ≤ A.length ∧ s9 = .int .i64 k ∧ BRow wr s0 (reads R (A.take k)) ∧ Trail w wr v s0) (fun _ s9 _ => A.length - (intOf s9).toNat)
  case atStart => exact ⟨0, Nat.zero_le _, rfl, HV.out, Trail.refl w v⟩
  case round =>
    obtain ⟨k, hk, rfl, hb, ht⟩ := hrel
    by_cases hlt : k < A.length
    · obtain ⟨b, o, rfl, hc, hnb⟩ := HR.out k hlt
      obtain ⟨f, hf, hact⟩ := HA.out.2 k hlt
      rw [hf] at hc
      have hcr : wr.cell? ⟨b, o + k, none⟩ = some f := by
        rw [World.cell?_of_block (a := ⟨b, o + k, none⟩) (ht.2.block b (block_lt_of_cell hc) (fun e => hnb e.symm))]
        exact hc
      have hact' : ActAt wr f A[k] I := hact.same (fun g hg => ht.2.block g (HI.out g hg).1 (fun e => (HI.out g hg).2 e.symm)) (fun _ h => h)
      have hft := fits_at HF.out k hlt
      have hsn : reads R (A.take (k + 1)) = A[k].on (reads R (A.take k)) := by rw [List.take_succ_eq_append_getElem hlt, reads_snoc]
      have hbk := Nat.le_trans (reads_length R (A.take (k + 1))) (bulk_take R A (k + 1))
      have hbk0 := Nat.le_trans (reads_length R (A.take k)) (bulk_take R A k)
      rw [hsn] at hbk
      have HT := Lib.hid ht
      obtain ⟨L, hL⟩ : ∃ L, reads R (A.take k) = L := ⟨_, rfl⟩
      rw [hL] at hb hft hsn hbk hbk0
      have HB := Lib.hid hb
      have HSN := Lib.hid hsn
      cases ha : A[k] with
      | app bb =>
        rw [ha] at hact' hft hbk
        obtain ⟨cc, va, rfl, q1, q2, _, _⟩ := hact'
        have hlb : L.length + bb.length ≤ 1000000 := by
          have : ((Do.app bb).on L).length = L.length + bb.length := List.length_append
          omega
        have Q27 : Hid (Calls Try.prog 27 #[u0, .pointer (some ⟨cc, 0, none⟩)] wr fun e w' => ∃ v', e = .returned v' ∧ BRow w' v' (L ++ bb) ∧ Onto wr w' u0 v') := Lib.hid (app_any hb q1 q2 hft.1 hlb)
        have HSN2 : Hid (reads R (A.take (k + 1)) = L ++ bb) := Lib.hid (by rw [hsn, ha]; rfl)
        clear q1 q2 hact hc hf ht hb hft hsn hL hbk hbk0 ha
        go_wp2_with (go_at_call 27; (with_reducible refine Q27.out.mono ?_); rintro e w1 ⟨v1, rfl, r1, o1⟩; have HR1 := Lib.hid r1; have HO1 := Lib.hid o1; clear r1 o1)
        exact ⟨⟨k + 1, by omega, by go_num, by rw [HSN2.out]; exact HR1.out, HT.out.next HO1.out⟩, by simp [intOf]; omega⟩
      | cut n =>
        rw [ha] at hact' hft hbk
        obtain ⟨cc, rfl, q1, _⟩ := hact'
        have Q36 : Hid (Calls Try.prog 36 #[u0, .pointer (some ⟨cc, 0, none⟩)] wr fun e w' => ∃ v', e = .returned v' ∧ BRow w' v' (L.take n) ∧ Onto wr w' u0 v' ∧ v'.ownBlock ≠ u0.ownBlock) := Lib.hid (cut_act hb q1 hft.1 (by omega))
        have HSN2 : Hid (reads R (A.take (k + 1)) = L.take n) := Lib.hid (by rw [hsn, ha]; rfl)
        clear q1 hact hc hf ht hb hft hsn hL hbk hbk0 ha
        go_wp2_with (go_at_call 36; (with_reducible refine Q36.out.mono ?_); rintro e w1 ⟨v1, rfl, r1, o1, _⟩; have HR1 := Lib.hid r1; have HO1 := Lib.hid o1; clear r1 o1)
        exact ⟨⟨k + 1, by omega, by go_num, by rw [HSN2.out]; exact HR1.out, HT.out.next HO1.out⟩, by simp [intOf]; omega⟩
    · obtain rfl : k = A.length := by omega
      rw [List.take_length] at hb
      have HB := Lib.hid hb
      have HT := Lib.hid ht
      clear hb ht
      go_wp2
      go_ret
      exact ⟨_, rfl, HB.out, HT.out⟩

set_option maxHeartbeats 1000000 in
set_option maxRecDepth 100000 in
theorem first_acts {w : World} {ad : Option Addr} {n c : Nat} {m : Int} (hnc : n ≤ c) (hc : c ≤ 9223372036854775807) (h1 : -9223372036854775808 ≤ m) (h2 : m ≤ 9223372036854775807) :
    Calls Try.prog 37 #[.slice ad n c, .int .i64 m] w fun e w' => e = .returned (.slice ad (upTo m n) c) ∧ w = w' := by
  go_enter Try.func37, Try.ntmps37
  go_wp2
  all_goals
    go_ret
    refine ⟨?_, rfl⟩
    show Ending.returned (.slice ad _ c) = _
    congr 2
    unfold upTo
    omega

set_option maxHeartbeats 1000000 in
set_option maxRecDepth 100000 in
theorem first_bytes {w : World} {ad : Option Addr} {n c : Nat} {m : Int} (hnc : n ≤ c) (hc : c ≤ 9223372036854775807) (h1 : -9223372036854775808 ≤ m) (h2 : m ≤ 9223372036854775807) :
    Calls Try.prog 39 #[.slice ad n c, .int .i64 m] w fun e w' => e = .returned (.slice ad (upTo m n) c) ∧ w = w' := by
  go_enter Try.func39, Try.ntmps39
  go_wp2
  all_goals
    go_ret
    refine ⟨?_, rfl⟩
    show Ending.returned (.slice ad _ c) = _
    congr 2
    unfold upTo
    omega
end Go.Proofs.Ytloijbhilfbliaa

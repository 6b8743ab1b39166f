/-
  The walks of the statements' alike and made.
-/
import Derived.Test.YtnndabjhdhnleaaDoorFIs
import Derived.Test.YtnndabjhdhnleaaDoorRef3
import Derived.Test.YtnndabjhdhnleaaDoorFMath2
namespace Go.Proofs.YtnndabjhdhnleaaDoor
open Go.RowKit

theorem frame_some_size (P : ByteArray) : (if fits P.size = true then frameOf P else ⟨#[]⟩ : ByteArray).size ≤ 313 := by
  split
  · rename_i h
    obtain ⟨h1, h2⟩ := fits_true h
    have := Plain.size_bounds (n := P.size) (by omega)
    rw [frameOf_size]; omega
  · exact Nat.zero_le _

theorem fallFrom_length (s : ByteArray) : ∀ (k : Nat) (acc : List ByteArray) (p : Int), (fallFrom s k acc p).1.length ≤ acc.length + k
  | 0, _, _ => Nat.le_refl _
  | k + 1, acc, p => by
    by_cases h : (fget s p).2.2 = 0
    · rw [fallFrom_ok h]
      have := fallFrom_length s k (acc ++ [(fget s p).1]) (fget s p).2.1
      rw [List.length_append] at this
      simp only [List.length_singleton] at this
      omega
    · rw [fallFrom_bad h]
      exact Nat.le_add_right _ _

set_option maxHeartbeats 2000000 in
theorem alike_any (s : ByteArray) (a : Int) (w : World) (hF : Fours w) (hs : s.size ≤ 1000000) :
    Calls Tryd.prog 12 #[.string s, .int .i64 a] w fun e w' => e = .returned (.bool true) ∧ Below w.heap.size w w' := by
  have g16 := fget_any s a w hF hs
  have g25 := fun w0 => refFget_any s a w0 hs
  have g14 := fun w0 h0 => fall_any s w0 h0 hs
  have g26 := fun w0 => refFall_any s w0 hs
  have hll : (fall s).1.length ≤ 1000000000 := by
    have := fallFrom_length s (s.size + 1) [] 0
    unfold fall
    simp only [List.length_nil] at this
    omega
  unfold fgotten at g16 g25
  obtain ⟨⟨P, n, e9⟩, hr⟩ : ∃ r, fget s a = r := ⟨_, rfl⟩
  obtain ⟨⟨l, p, x⟩, hR⟩ : ∃ r, fall s = r := ⟨_, rfl⟩
  rw [hr] at g16 g25
  rw [hR] at g14 g26 hll
  unfold AllAns at g14 g26
  dsimp only at g16 g25 g14 g26 hll
  have hsame := fun v1 v2 w0 h1 h2 => sameS_any l v1 v2 w0 hll h1 h2
  have HF := Lib.hid hF
  clear hr hR hs hll hF
  go_enter Tryd.func12, Tryd.ntmps12
  go_wp2_with (first
    | (go_at_call 16; go_must (with_reducible refine g16.mono ?_); rintro e w1 ⟨rfl, hb1⟩)
    | (go_at_call 25; go_must (with_reducible refine (g25 _).mono ?_); rintro e w2 ⟨rfl, hb2⟩; replace hb1 := Below.next hb1 hb2; clear hb2)
    | (go_at_call 14; go_must (with_reducible refine (g14 _ (HF.out.below hb1)).mono ?_); rintro e w2 ⟨v2, rfl, hv2, hb2⟩; replace hb1 := Below.next hb1 hb2; clear hb2)
    | (go_at_call 26; go_must (with_reducible refine (g26 _).mono ?_); rintro e w3 ⟨v3, rfl, hv3, hb3⟩; replace hv2 := hv2.below hb3; replace hb1 := Below.next hb1 hb3; clear hb3)
    | (go_at_call 15; go_must (with_reducible refine (hsame _ _ _ hv2 hv3).mono ?_); rintro e w4 ⟨rfl, hb4⟩; replace hb1 := Below.next hb1 hb4; clear hb4))
  go_ret
  exact ⟨rfl, hb1⟩

/-- What made answers: some text that is not too long. -/
def MadeAns (w : World) (e : Ending) (w' : World) : Prop := ∃ M : ByteArray, e = .returned (.string M) ∧ M.size ≤ 20 * 313 ∧ Below w.heap.size w w'

set_option maxRecDepth 100000 in
set_option maxHeartbeats 2000000 in
theorem made_any (l : List ByteArray) (v : Value) (w : World) (h : Strs w v l) (hl : ∀ s ∈ l, s.size ≤ 9223372036854775807) (_hlen : l.length ≤ 9223372036854775807) :
    Calls Tryd.prog 11 #[v] w (MadeAns w) := by
  obtain ⟨ad, c, rfl, hc⟩ := h
  go_enter Tryd.func11, Tryd.ntmps11
  go_wp2
  go_loopw [3, 4, 5, 6] (fun g i _ _ wr => ∃ (k : Nat) (M : ByteArray), k ≤ 20 ∧ k ≤ l.length ∧ i = .int .i64 k ∧ g = .string M ∧ M.size ≤ k * 313 ∧ Below w.heap.size w wr) (fun _ i _ _ _ => 20 - (intOf i).toNat)
  case atStart => exact ⟨0, ⟨#[]⟩, by omega, Nat.zero_le _, rfl, rfl, Nat.le_refl _, Below.refl _ _⟩
  case round =>
    obtain ⟨k, M, hk, hkl, rfl, rfl, hM, hb⟩ := hrel
    by_cases hlt : k < l.length
    · by_cases h20 : k < 20
      · obtain ⟨b, o, rfl, hcell⟩ := hc k hlt
        have hcell' : wr.cell? ⟨b, o + k, none⟩ = some (.string (l.getD k ⟨#[]⟩)) := by rw [hb.cell (p := ⟨b, o + k, none⟩) (block_lt_of_cell hcell)]; exact hcell
        have hxz : (l.getD k ⟨#[]⟩).size ≤ 9223372036854775807 := hl _ (by simp [List.getD, hlt])
        obtain ⟨x, hx⟩ : ∃ x, x = l.getD k ⟨#[]⟩ := ⟨_, rfl⟩
        rw [← hx] at hcell' hxz
        have hcg := fun d os => cell_regrown hcell' d os
        obtain ⟨P, hP⟩ : ∃ P, x.extract 0 (min x.size 310) = P := ⟨_, rfl⟩
        obtain ⟨kp, hkp⟩ : ∃ kp : Nat, kp = min x.size 310 := ⟨_, rfl⟩
        have m1 : min (x.size : Int) 310 = (kp : Int) := by omega
        have m2 : (kp : Int) ≤ (x.size : Int) := by omega
        have sP : P.size ≤ 310 := by rw [← hP, ByteArray.size_extract]; omega
        rw [← hkp] at hP
        have sF := frame_some_size P
        have q9 := quiet_call (w := wr) fun w1 _ => refFput_any P w1 (by omega)
        obtain ⟨F, hFr⟩ : ∃ F, (if fits P.size = true then frameOf P else ⟨#[]⟩ : ByteArray) = F := ⟨_, rfl⟩
        obtain ⟨e8, he8⟩ : ∃ e8 : Int, (if fits P.size = true then 0 else 4) = e8 := ⟨_, rfl⟩
        rw [hFr] at sF
        rw [hFr, he8] at q9
        have hcat : M.size + F.size ≤ 9223372036854775807 := by omega
        clear hFr he8 hkp hx hcell hc hl
        go_wp2
        refine wp_region_quiet_below (by kernel_rfl) (by kernel_rfl) ?_
        repeat (quiet_step (first | (go_at_call 9; with_reducible exact q9 _ _)))
        refine wpQuiet_nil ?_
        intro _ hw'
        obtain ⟨⟨dq, osq⟩, hw''⟩ := hw'
        subst hw''
        have hb2 := Below.next hb (below_regrown wr dq osq)
        generalize Sort.grow (redrawn wr dq) osq = w2 at hb2 ⊢
        clear q9 hcg hcell'
        go_wp2
        exact ⟨⟨k + 1, M ++ F, by omega, by omega, by go_num, rfl, by rw [ba_size_append]; omega, hb2⟩, by simp [intOf]; omega⟩
      · clear hc hl
        go_wp2
        go_ret
        exact ⟨M, rfl, by omega, hb⟩
    · clear hc hl
      go_wp2
      go_ret
      exact ⟨M, rfl, by omega, hb⟩
end Go.Proofs.YtnndabjhdhnleaaDoor

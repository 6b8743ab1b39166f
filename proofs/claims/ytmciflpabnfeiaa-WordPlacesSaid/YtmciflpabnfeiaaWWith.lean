/-
  The statement's with: a row with one more, at its place.
-/
import Derived.Test.YtmciflpabnfeiaaWAppend
namespace Go.Proofs.Ytmciflpabnfeiaa
open Go.RowKit

set_option maxHeartbeats 1600000 in
theorem with_not (l : List ByteArray) (ad : Option Addr) (c : Nat) (x : ByteArray) (w : World) (hr : risingT l = true) (hv : Strs w (.slice ad l.length c) l) (hlen : l.length ≤ 1000) (hin : inT l x = false) (hc : l.length ≤ c) (_hcm : c ≤ 9223372036854775807) :
    Calls Try.prog 24 #[.slice ad l.length c, .string x] w fun e w' => ∃ v, e = .returned v ∧ RowS w' v (insertT l x) ∧ Below w.heap.size w w' := by
  have q16 := near_any l _ x w hr hv (by omega)
  have hI : insertT l x = l.take (placeT l x) ++ x :: l.drop (placeT l x) := by unfold insertT; rw [hin]; rfl
  unfold nearAns at q16
  rw [hin] at q16
  have hp := placeT_le l x
  obtain ⟨p, hp'⟩ : ∃ p, placeT l x = p := ⟨_, rfl⟩
  rw [hp'] at q16 hp hI
  have HI := Lib.hid hI
  clear hp' hI
  have hpc : p ≤ c := by omega
  have hsT : ∀ w' : World, Below w.heap.size w w' → Strs w' (.slice ad p c) (l.take p) := fun w' h => (Strs.take hv rfl hp).below h
  have hsD : ∀ w' : World, Below w.heap.size w w' → Strs w' (.slice (if c = p then ad else Option.map (fun x => x.add p) ad) (l.length - p) (c - p)) (l.drop p) := fun w' h => (Strs.drop hv rfl hc hp).below h
  have HT := Lib.hid hsT
  have HD := Lib.hid hsD
  clear hsT hsD
  go_enter Try.func24, Try.ntmps24
  go_wp2_with (go_at_call 16; go_must (with_reducible refine q16.mono ?_); rintro e w1 ⟨rfl, rfl⟩)
  go_region_law (first | (refine step_append_strs (w0 := w) rfl (.tmp 25) (.tmp 28) rfl rfl (.slice (some ⟨_, 0, none⟩) 0 0) (.slice ad p c) [] (l.take p) rfl rfl (by repeat (first | (with_reducible assumption) | (with_reducible exact Below.refl _ _) | (with_reducible apply below_drew') | (with_reducible apply below_alloc'))) (by repeat (first | (with_reducible apply owns_drew') | ((with_reducible refine owns_empty ?_ ?_); (focus repeat (first | (with_reducible assumption) | (with_reducible exact Below.refl _ _) | (with_reducible apply below_drew') | (with_reducible apply below_alloc'))); (simp [World.size_alloc])) | (with_reducible apply World.ownsRow.alloc))) (HT.out _ (by repeat (first | (with_reducible assumption) | (with_reducible exact Below.refl _ _) | (with_reducible apply below_drew') | (with_reducible apply below_alloc')))) (by simp; omega) ?_; intro v1 w1 o1 g1 b1) | (refine step_append_strs (w0 := w) rfl (.tmp 29) (.tmp 31) rfl rfl v1 (.slice (some ⟨_, 0, none⟩) 1 1) ([] ++ l.take p) [x] rfl rfl (by repeat (first | (with_reducible assumption) | (with_reducible exact Below.refl _ _) | (with_reducible apply below_drew') | (with_reducible apply below_alloc'))) (by first | (with_reducible exact o1) | (with_reducible exact World.ownsRow.alloc o1 _)) (by first | (with_reducible exact strs_one rfl) | exact Strs.grown (by repeat (first | (with_reducible apply strs_drew') | ((with_reducible refine strs_one ?_); simp) | (with_reducible apply strs_alloc'))) g1 (by simp [Value.ownBlock])) (by simp; omega) ?_; intro v2 w2 o2 g2 b2) | (refine step_append_strs (w0 := w) rfl (.tmp 32) (.tmp 35) rfl rfl v2 (.slice (if c = p then ad else Option.map (fun x => x.add p) ad) (l.length - p) (c - p)) ([] ++ l.take p ++ [x]) (l.drop p) rfl rfl (by repeat (first | (with_reducible assumption) | (with_reducible exact Below.refl _ _) | (with_reducible apply below_drew') | (with_reducible apply below_alloc'))) (by first | (with_reducible exact o2) | (with_reducible exact World.ownsRow.alloc o2 _)) (HD.out _ (by repeat (first | (with_reducible assumption) | (with_reducible exact Below.refl _ _) | (with_reducible apply below_drew') | (with_reducible apply below_alloc')))) (by simp; omega) ?_; intro v3 w3 o3 g3 b3))
  all_goals go_wp2
  all_goals
    go_ret
    exact ⟨v3, rfl, by rw [HI.out]; have := rowS_owns o3; simpa using this, b3⟩

theorem with_is (l : List ByteArray) (ad : Option Addr) (c : Nat) (x : ByteArray) (w : World) (hr : risingT l = true) (hv : Strs w (.slice ad l.length c) l) (hlen : l.length ≤ 1000) (hin : inT l x = true) :
    Calls Try.prog 24 #[.slice ad l.length c, .string x] w fun e w' => e = .returned (.slice ad l.length c) ∧ w = w' := by
  have q16 := near_any l _ x w hr hv (by omega)
  unfold nearAns at q16
  rw [hin] at q16
  have hp := placeT_le l x
  obtain ⟨p, hp'⟩ : ∃ p, placeT l x = p := ⟨_, rfl⟩
  rw [hp'] at q16 hp
  clear hp'
  go_enter Try.func24, Try.ntmps24
  go_wp2_with (go_at_call 16; go_must (with_reducible refine q16.mono ?_); rintro e w1 ⟨rfl, rfl⟩)
  go_ret
  exact ⟨rfl, rfl⟩

theorem with_any (l : List ByteArray) (v : Value) (x : ByteArray) (w : World) (hr : risingT l = true) (hv : RowS w v l) (hlen : l.length ≤ 1000) :
    Calls Try.prog 24 #[v, .string x] w fun e w' => ∃ v', e = .returned v' ∧ RowS w' v' (insertT l x) ∧ Below w.heap.size w w' := by
  obtain ⟨ad, c, rfl, h1, h2, h3⟩ := hv
  cases hin : inT l x
  · exact with_not l ad c x w hr h3 hlen hin h1 h2
  · refine (with_is l ad c x w hr h3 hlen hin).mono ?_
    rintro e w' ⟨rfl, rfl⟩
    refine ⟨_, rfl, ?_, Below.refl _ _⟩
    unfold insertT
    rw [hin, if_pos rfl]
    exact ⟨ad, c, rfl, h1, h2, h3⟩
end Go.Proofs.Ytmciflpabnfeiaa

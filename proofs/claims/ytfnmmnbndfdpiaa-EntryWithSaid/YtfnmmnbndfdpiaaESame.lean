/-
  Are two entries one; are two lists alike.
-/
import Derived.Test.YtfnmmnbndfdpiaaEEnts
namespace Go.Proofs.Ytfnmmnbndfdpiaa
open Go.RowKit Go.Sort

/-- Are two entries one? -/
def eqE (x y : Ent) : Bool := (x.word.toList == y.word.toList) && (((x.weight : Int) == (y.weight : Int)) && (x.gone == y.gone))

theorem eqE_iff (x y : Ent) : eqE x y = true ↔ x = y := by
  unfold eqE
  rw [Bool.and_eq_true, Bool.and_eq_true, toList_beq, decide_eq_true_eq, beq_iff_eq, beq_iff_eq]
  constructor
  · rintro ⟨h1, h2, h3⟩
    obtain ⟨a, n, g⟩ := x
    obtain ⟨b, m, k⟩ := y
    simp only at h1 h2 h3
    have : n = m := by omega
    rw [h1, this, h3]
  · rintro rfl
    exact ⟨rfl, rfl, rfl⟩
theorem eqE_self (x : Ent) : eqE x x = true := (eqE_iff x x).2 rfl

theorem run_eqE (x y : Ent) (w : World) : Sem.run Try.prog (binOp .eql 24 (.agg (enc x).toArray) (.agg (enc y).toArray)) w = .ok (.bool (eqE x y)) w := by
  have u9 := Try.underlying9
  have a9 := Try.isAgg9
  have z9 := Try.sizeOf9
  have u22 := Try.underlying22
  have a22 := Try.isAgg22
  have z22 := Try.sizeOf22
  have u4 := Try.underlying4
  have a4 := Try.isAgg4
  have z4 := Try.sizeOf4
  have hS : Try.prog.underlying 24 = some (.struct (Try.prog.fieldsOf 24)) := by kernel_rfl
  have hp : Try.prog.stoodInHeld 24 = false := by kernel_rfl
  unfold eqE
  simp only [enc]
  rw [run_eql_struct, show (10000 : Nat) = 9999 + 1 from rfl, run_equalIn_agg w 9999 24 _ _ hS hp]
  simp only [Program.fieldsOf, Try.underlying24]
  go_simp
  cases h1 : (x.word.toList == y.word.toList) <;> cases h2 : ((x.weight : Int) == (y.weight : Int)) <;> cases h3 : (x.gone == y.gone) <;> simp_all

set_option maxHeartbeats 1000000 in
set_option maxRecDepth 100000 in
theorem same_true (l : List Ent) (v1 v2 : Value) (w : World) (h1 : Ents w v1 l) (h2 : Ents w v2 l) (hlen : l.length ≤ 1000000) :
    Calls Try.prog 21 #[v1, v2] w fun e w' => e = .returned (.bool true) ∧ RowKit.Below w.heap.size w w' := by
  obtain ⟨ad1, c1, rfl, hx1⟩ := ents_cell h1
  obtain ⟨ad2, c2, rfl, hx2⟩ := ents_cell h2
  have HC1 : Hid (∀ i, i < l.length → ∃ b o, ad1 = some ⟨b, o, none⟩ ∧ EntAt w b (o + i * 3) (ent l i)) := Lib.hid hx1
  have HC2 : Hid (∀ i, i < l.length → ∃ b o, ad2 = some ⟨b, o, none⟩ ∧ EntAt w b (o + i * 3) (ent l i)) := Lib.hid hx2
  clear hx1 hx2 h1 h2
  go_enter Try.func21, Try.ntmps21
  go_wp2
  go_loopw [5] (fun s5 wr => ∃ k : Nat, k ≤ l.length ∧ s5 = .int .i64 k ∧ RowKit.Below w.heap.size w wr) (fun s5 _ => l.length - (intOf s5).toNat)
  case atStart => exact ⟨0, Nat.zero_le _, rfl, RowKit.Below.refl _ _⟩
  case round =>
    obtain ⟨k, hk, rfl, hb⟩ := hrel
    by_cases hlt : k < l.length
    · obtain ⟨b, o, rfl, hE⟩ := HC1.out k hlt
      obtain ⟨b', o', rfl, hE'⟩ := HC2.out k hlt
      obtain ⟨h1, h2, h3⟩ := hE.below hb
      obtain ⟨h4, h5, h6⟩ := hE'.below hb
      obtain ⟨y, hy⟩ : ∃ y, ent l k = y := ⟨_, rfl⟩
      rw [hy] at h1 h2 h3 h4 h5 h6
      clear hy hE hE'
      go_wp2
      go_quiet (fail)
      replace hb := below_drewN hb nq
      generalize wr.drewN nq = w2 at hb ⊢
      go_wp2
      exact ⟨⟨k + 1, by omega, by go_num, hb⟩, by simp [intOf]; omega⟩
    · go_wp2
      go_ret
      exact ⟨rfl, hb⟩
end Go.Proofs.Ytfnmmnbndfdpiaa

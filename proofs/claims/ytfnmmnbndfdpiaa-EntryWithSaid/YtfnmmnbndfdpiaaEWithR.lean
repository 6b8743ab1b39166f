/-
  The document's list with some entries, one behind the other.
-/
import Derived.Test.YtfnmmnbndfdpiaaEOne
namespace Go.Proofs.Ytfnmmnbndfdpiaa
open Go.RowKit Go.Sort

theorem withT_snoc (l es : List Ent) (k : Nat) (h : k < es.length) : withT l (es.take (k + 1)) = putE (withT l (es.take k)) (bare (ent es k)) := by
  unfold withT
  rw [List.take_succ_eq_append_getElem h, List.foldl_append, ent_lt h]
  rfl

set_option maxHeartbeats 1000000 in
set_option maxRecDepth 100000 in
theorem refWith_any (l es : List Ent) (v ve : Value) (w : World) (hr : risingE l = true) (hv : Ents w v l) (hve : Ents w ve es) (hl : l.length ≤ 1000) (hle : es.length ≤ 1000) :
    Calls Try.prog 25 #[v, ve] w fun e w' => ∃ v', e = .returned v' ∧ RowE w' v' (withT l es) ∧ RowKit.Below w.heap.size w w' := by
  obtain ⟨ad, cp, rfl, hc⟩ := ents_cell hve
  have HC : Hid (∀ W, RowKit.Below w.heap.size w W → ∀ i, i < es.length → ∃ b o, ad = some ⟨b, o, none⟩ ∧ EntAt W b (o + i * 3) (ent es i)) := Lib.hid fun W hW i hi => by
    obtain ⟨b, o, ha, hE⟩ := hc i hi
    exact ⟨b, o, ha, hE.below hW⟩
  have HV := Lib.hid hv
  have HR := Lib.hid hr
  obtain ⟨adl, cl, rfl, _⟩ := id hv
  clear hc hve hv hr
  go_enter Try.func25, Try.ntmps25
  go_wp2_with (at_builtin; refine wpList_append_ents rfl _ _ rfl rfl w.heap.size (.slice none 0 0) _ [] l rfl rfl (ownsE_nil w _) HV.out (by simp; omega) (Nat.le_refl _) ?_; intro v' w1 o1 gr1)
  have hb1 := (RowKit.Below.refl w.heap.size w).grown gr1 (Nat.le_refl _) (fun k hk => by simp [Value.ownBlock] at hk)
  have hrow : RowE w1 v' l := by have := rowE_owns o1; simpa using this
  clear o1 gr1
  go_loopw [5, 6] (fun s5 s6 wr => ∃ k : Nat, k ≤ es.length ∧ s6 = .int .i64 k ∧ RowE wr s5 (withT l (es.take k)) ∧ RowKit.Below w.heap.size w wr) (fun _ s6 _ => es.length - (intOf s6).toNat)
  case atStart => exact ⟨0, Nat.zero_le _, rfl, hrow, hb1⟩
  case round =>
    clear hrow hb1
    obtain ⟨k, hk, rfl, hrow, hb⟩ := hrel
    by_cases hlt : k < es.length
    · obtain ⟨b, o, rfl, hE⟩ := HC.out _ hb k hlt
      obtain ⟨h1, h2, h3⟩ := hE
      have hsn := withT_snoc l es k hlt
      have hlen := withT_length l (es.take k)
      rw [List.length_take] at hlen
      obtain ⟨y, hy⟩ : ∃ y, ent es k = y := ⟨_, rfl⟩
      rw [hy] at h1 h2 h3 hsn
      have hO1 := withT_rising HR.out (es.take k)
      obtain ⟨O, hO⟩ : ∃ O, withT l (es.take k) = O := ⟨_, rfl⟩
      rw [hO] at hsn hrow hlen hO1
      have q43 := refOne_any O _ y _ hO1 hrow.ents (by omega)
      unfold enc at q43
      have HS := Lib.hid hsn
      clear hy hsn hO hO1 hrow
      go_wp2_with (go_at_call 43; (with_reducible refine q43.mono ?_); rintro e w2 ⟨v2, rfl, hr2, hb2⟩)
      exact ⟨⟨k + 1, by omega, by go_num, by rw [HS.out]; exact hr2, Below.next hb hb2⟩, by simp [intOf]; omega⟩
    · obtain rfl : k = es.length := by omega
      rw [List.take_length] at hrow
      have HRW := Lib.hid hrow
      clear hrow
      go_wp2
      go_ret
      exact ⟨_, rfl, HRW.out, hb⟩
end Go.Proofs.Ytfnmmnbndfdpiaa

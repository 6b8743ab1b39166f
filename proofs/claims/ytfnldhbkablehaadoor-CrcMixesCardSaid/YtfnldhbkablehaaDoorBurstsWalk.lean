/-
  The walk of CrcBursts: it returns true, for every text, place and pattern.
-/
import Derived.Test.YtfnldhbkablehaaDoorProg
import Derived.Test.YtfnldhbkablehaaDoorMath
import Derived.WalkKit
import Derived.WalkSpells
import Derived.WalkLawsBesides
import Derived.Lib.Hide
import Derived.Shelf.Pu.Clone
import Derived.Deep.QuietTactic
import Derived.BigQuiet
import Derived.Lib.QuietBelow
import Derived.Test.YtfnldhbkablehaaDoorWalks1
import Derived.Lib.ConvBytes
import Derived.Test.YtfnldhbkablehaaDoorTurnWalk
namespace Go.Proofs.YtfnldhbkablehaaDoor
open Go.RowKit

theorem body_last (x : ByteArray) (h : 4 ≤ x.size) : x.data.toList = (body x).data.toList ++ (last x).data.toList ∧ (last x).data.toList.length = 4 := by
  constructor
  · unfold body last
    rw [cut_join]
  · unfold last
    rw [ba_length, ByteArray.size_extract]
    omega
theorem isSeal_run (x : ByteArray) (h : isSeal x = true) : Plain.run 4294967295 x.data.toList = Plain.many 32 4294967295 := by
  unfold isSeal at h
  rw [Bool.and_eq_true, decide_eq_true_eq, decide_eq_true_eq] at h
  obtain ⟨h4, he⟩ := h
  obtain ⟨e1, e2⟩ := body_last x h4
  rw [e1]
  apply (Plain.seal_run _ _ e2).1
  rw [he]
  rfl

/-- Bytes with bits of a pattern turned. -/
def turned (s : ByteArray) (a p : Nat) : ByteArray := ⟨(Plain.turnTo s.data.toList a p 32).toArray⟩
theorem turned_size (s : ByteArray) (a p : Nat) : (turned s a p).size = s.size := by
  rw [← ba_length, ← ba_length]
  exact Plain.turnTo_length _ _ _ _
theorem burst_seal (T : ByteArray) (a p : Nat) (ha : a ≤ 8 * (sealed T).size) (hne : turned (sealed T) a p ≠ sealed T) : isSeal (turned (sealed T) a p) = false := by
  rcases h : isSeal (turned (sealed T) a p) with _ | _
  · rfl
  · exfalso
    apply hne
    have h1 := isSeal_run _ h
    have h2 := isSeal_run _ (isSeal_sealed T)
    apply ba_ext
    exact Plain.burst _ a p 4294967295 (by rw [ba_length]; exact ha) (h1.trans h2.symm)

set_option maxHeartbeats 2000000 in
theorem bursts_walk (s T S B O : ByteArray) (ob eqB : Bool) (at0 p n a : Nat) (w : World)
    (hmin : min (s.size : Int) 300 = (n : Int)) (hn : n ≤ s.size) (hT : s.extract 0 n = T) (_hS : 4 ≤ S.size) (_hS2 : S.size ≤ 1000) (_hat : at0 < 65536) (ha : (at0 : Int) % (8 * max 1 (S.size : Int)) = (a : Int))
    (he : (B.toList == S.toList) = eqB) (hans : eqB = ob) (hO : ob = false → O = ⟨#[]⟩)
    (c15 : ∀ w0, Below w.heap.size w w0 → Calls Tryd.prog 15 #[] w0 fun e w' => e = .returned (.bool true) ∧ Below w0.heap.size w0 w')
    (c13 : ∀ w0, Below w.heap.size w w0 → Calls Tryd.prog 13 #[.string T] w0 fun e w' => e = .returned (.string S) ∧ Below w0.heap.size w0 w')
    (c16 : ∀ w0, Below w.heap.size w w0 → Calls Tryd.prog 16 #[.string S, .int .i64 (a : Int), .int .u32 (p : Int)] w0 fun e w' => e = .returned (.string B) ∧ Below w0.heap.size w0 w')
    (c8 : ∀ w0, Below w.heap.size w w0 → Calls Tryd.prog 8 #[.string B] w0 fun e w' => e = .returned (.tuple #[.string O, .bool ob]) ∧ Below w0.heap.size w0 w') :
    Calls Tryd.prog 4 #[.string s, .int .u16 at0, .int .u32 p] w fun e w' => e = .returned (.bool true) ∧ Below w.heap.size w w' := by
  have hb := Below.refl w.heap.size w
  subst hans
  cases eqB
  · obtain rfl := hO rfl
    go_enter Tryd.func4, Tryd.ntmps4
    go_wp2_with (first
      | (go_at_call 15; with_reducible refine (c15 _ hb).mono ?_; rintro e w1 ⟨rfl, hb1⟩; replace hb := Below.next hb hb1; clear hb1)
      | (go_at_call 13; with_reducible refine (c13 _ hb).mono ?_; rintro e w1 ⟨rfl, hb1⟩; replace hb := Below.next hb hb1; clear hb1)
      | (go_at_call 16; with_reducible refine (c16 _ hb).mono ?_; rintro e w1 ⟨rfl, hb1⟩; replace hb := Below.next hb hb1; clear hb1)
      | (go_at_call 8; with_reducible refine (c8 _ hb).mono ?_; rintro e w1 ⟨rfl, hb1⟩; replace hb := Below.next hb hb1; clear hb1))
    go_ret
    exact ⟨rfl, hb⟩
  · go_enter Tryd.func4, Tryd.ntmps4
    go_wp2_with (first
      | (go_at_call 15; with_reducible refine (c15 _ hb).mono ?_; rintro e w1 ⟨rfl, hb1⟩; replace hb := Below.next hb hb1; clear hb1)
      | (go_at_call 13; with_reducible refine (c13 _ hb).mono ?_; rintro e w1 ⟨rfl, hb1⟩; replace hb := Below.next hb hb1; clear hb1)
      | (go_at_call 16; with_reducible refine (c16 _ hb).mono ?_; rintro e w1 ⟨rfl, hb1⟩; replace hb := Below.next hb hb1; clear hb1)
      | (go_at_call 8; with_reducible refine (c8 _ hb).mono ?_; rintro e w1 ⟨rfl, hb1⟩; replace hb := Below.next hb hb1; clear hb1))
    go_ret
    exact ⟨rfl, hb⟩

theorem bursts_any (s : ByteArray) (at0 p : Nat) (w : World) (hf : Fours w) (hat : at0 < 65536) (hp : p < 4294967296) :
    Calls Tryd.prog 4 #[.string s, .int .u16 at0, .int .u32 p] w fun e w' => e = .returned (.bool true) ∧ Below w.heap.size w w' := by
  have hT : (s.extract 0 (min s.size 300)).size = min s.size 300 := by rw [ByteArray.size_extract]; omega
  obtain ⟨T, hTe⟩ : ∃ T, s.extract 0 (min s.size 300) = T := ⟨_, rfl⟩
  rw [hTe] at hT
  have hS := sealed_size T
  have ha : at0 % (8 * (sealed T).size) < 8 * (sealed T).size := Nat.mod_lt _ (by omega)
  have hB : (turned (sealed T) (at0 % (8 * (sealed T).size)) p).size = T.size + 4 := by rw [turned_size, hS]
  exact bursts_walk s T (sealed T) (turned (sealed T) (at0 % (8 * (sealed T).size)) p) (opened (turned (sealed T) (at0 % (8 * (sealed T).size)) p)) (isSeal (turned (sealed T) (at0 % (8 * (sealed T).size)) p))
    (isSeal (turned (sealed T) (at0 % (8 * (sealed T).size)) p)) at0 p (min s.size 300) (at0 % (8 * (sealed T).size)) w (by omega) (by omega) hTe (by omega) (by omega) hat (by rw [show max (1 : Int) ((sealed T).size : Int) = ((sealed T).size : Int) by omega]; simp)
    (by
      rw [toList_beq]
      by_cases e : turned (sealed T) (at0 % (8 * (sealed T).size)) p = sealed T
      · rw [decide_eq_true e, e, isSeal_sealed]
      · rw [decide_eq_false e, burst_seal T _ p (by omega) e])
    rfl (fun h => by unfold opened; rw [if_neg (by rw [h]; decide)])
    (fun w0 hb => works_any w0 (hf.below hb)) (fun w0 hb => seal_any T w0 (hf.below hb) (by omega))
    (fun w0 _ => turn_walk (sealed T) _ p w0 (by omega) (by omega) hp)
    (fun w0 hb => open_any _ w0 (hf.below hb) (by omega))

end Go.Proofs.YtfnldhbkablehaaDoor

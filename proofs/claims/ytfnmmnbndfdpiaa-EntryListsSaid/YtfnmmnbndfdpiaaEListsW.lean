/-
  EntryLists: any list is looked at, searched, added to, and rid of what is gone, as the document says.
-/
import Derived.Test.YtfnmmnbndfdpiaaEWorks
import Derived.Test.YtfnmmnbndfdpiaaELive
import Derived.Test.YtfnmmnbndfdpiaaEFind
import Derived.Test.YtfnmmnbndfdpiaaEDMath
import Derived.Deep.DeepCutAuto
import Derived.Deep.QuietTactic
namespace Go.Proofs.Ytfnmmnbndfdpiaa
open Go.RowKit Go.Sort

theorem three_at (a b c : Value) (k : Nat) (v : Value) (h : (k = 0 ∧ v = a) ∨ (k = 1 ∧ v = b) ∨ (k = 2 ∧ v = c)) (w : World) : (Instr.index 40 (.agg #[a, b, c]) (.int .i64 (k : Int))).run Try.prog w = .ok v w := by
  rcases h with ⟨rfl, rfl⟩ | ⟨rfl, rfl⟩ | ⟨rfl, rfl⟩ <;> kernel_rfl

theorem bare_found {l : List Ent} (h : Bared l) (c : List UInt8) : bare (foundT l c) = foundT l c := by
  unfold foundT
  cases hf : findE l c with
  | none => rfl
  | some x => exact h x (findE_some hf).1

set_option maxHeartbeats 4000000 in
set_option maxRecDepth 100000 in
theorem entryLists_walk (raw : List Ent) (ad : Option Addr) (c : Nat) (l m : List Draft) (vl vm : Value) (w : World) (hraw : Ents w (.slice ad raw.length c) raw) (hlc : raw.length ≤ c) (hcm : c ≤ 9223372036854775807)
    (hsr : ShortE raw) (hl : Drafts w vl l) (hm : Drafts w vm m) (hll : l.length ≤ 9223372036854775807) (hml : m.length ≤ 9223372036854775807) (hlw : ∀ d ∈ l, d.weight < 4294967296) (hmw : ∀ d ∈ m, d.weight < 4294967296) :
    Calls Try.prog 4 #[.slice ad raw.length c, vl, vm] w fun e w' => e = .returned (.bool true) ∧ RowKit.Below w.heap.size w w' := by
  have hrl : raw.length ≤ 9223372036854775807 := by omega
  have hn1 : (min (raw.length : Int) 50).toNat ≤ 50 := by omega
  have hn2 : (min (raw.length : Int) 50).toNat ≤ raw.length := by omega
  have HRAW := Lib.hid hraw
  have HSR := Lib.hid hsr
  have HL := Lib.hid hl
  have HM := Lib.hid hm
  have HLW := Lib.hid hlw
  have HMW := Lib.hid hmw
  clear hraw hsr hl hm hlw hmw
  go_enter Try.func4, Try.ntmps4
  go_upto_region 2 with fail
  clear hn1 hn2
  generalize hn : (min (raw.length : Int) 50).toNat = n
  have hn1 : n ≤ 50 := by omega
  have hn2 : n ≤ raw.length := by omega
  have HR0 : Hid (Ents w (.slice ad n c) (raw.take n)) := Lib.hid (HRAW.out.take hn2)
  have hln : (raw.take n).length = n := by rw [List.length_take]; omega
  have HS0 : Hid (ShortE (raw.take n)) := Lib.hid (shortE_take HSR.out n)
  obtain ⟨R, hR⟩ : ∃ R, raw.take n = R := ⟨_, rfl⟩
  rw [hR] at HR0 HS0 hln
  have q17 : Calls Try.prog 17 #[vl, .int .i64 50] w fun e w' => ∃ v', e = .returned v' ∧ RowE w' v' (withT [] (entriesT l 50)) ∧ RowKit.Below w.heap.size w w' := list_any l vl 50 w HL.out (by omega) hll
  have q18 : ∀ W, RowKit.Below w.heap.size w W → Calls Try.prog 18 #[vm, .int .i64 20] W fun e w' => ∃ v', e = .returned v' ∧ RowE w' v' (entriesT m 20) ∧ RowKit.Below W.heap.size W w' := fun W h => entries_any m vm 20 W (HM.out.below h) (by omega) hml
  have HO1 := Lib.hid (own_small HLW.out 50)
  have HO2 := Lib.hid (entries_small HMW.out 20)
  have HO3 := Lib.hid (withT_rising (l := []) rfl (entriesT l 50))
  have HO4 := Lib.hid (withT_bared bared_nil (entriesT l 50))
  have hol : (withT [] (entriesT l 50)).length ≤ 50 := by have := withT_length [] (entriesT l 50); have h2 := entriesT_length l 50; simp at this; omega
  have hsl := entriesT_length m 20
  obtain ⟨O, hO⟩ : ∃ O, withT [] (entriesT l 50) = O := ⟨_, rfl⟩
  obtain ⟨S, hS⟩ : ∃ S, entriesT m 20 = S := ⟨_, rfl⟩
  rw [hO] at q17 HO1 HO3 HO4 hol
  rw [hS] at q18 HO2 hsl
  have Q17 := Lib.hid q17
  have Q18 := Lib.hid q18
  subst hln
  clear hn hR hO hS HL HM HLW HMW HRAW HSR q17 q18
  go_wp2_with (first
    | (go_at_call 17; (with_reducible refine Q17.out.mono ?_); rintro e w1 ⟨v1, rfl, r1, hb1⟩; obtain ⟨ad1, c1, rfl, hc1, hd1, _⟩ := id r1; have HV1 := Lib.hid r1; clear r1)
    | (go_at_call 18; (with_reducible refine (Q18.out _ hb1).mono ?_); rintro e w2 ⟨v2, rfl, r2, hb2⟩; obtain ⟨ad2, c2, rfl, hc2, hd2, _⟩ := id r2; have HV2 := Lib.hid r2; clear r2; have HV1 := Lib.hid (HV1.out.below hb2))
    | (at_builtin; refine wpList_append_ents rfl _ _ rfl rfl w2.heap.size (.slice none 0 0) _ [] O rfl rfl (ownsE_nil w2 _) HV1.out.ents (by simp; omega) (Nat.le_refl _) ?_; intro v3 w3 o3 gr3))
  have hbw3 : RowKit.Below w.heap.size w w3 := Below.next hb1 (Below.next hb2 ((RowKit.Below.refl w2.heap.size w2).grown gr3 (Nat.le_refl _) (fun k hk => by simp [Value.ownBlock] at hk)))
  have hb23 : RowKit.Below w2.heap.size w2 w3 := (RowKit.Below.refl w2.heap.size w2).grown gr3 (Nat.le_refl _) (fun k hk => by simp [Value.ownBlock] at hk)
  have HE0 := Lib.hid (HR0.out.below hbw3)
  have HE1 := Lib.hid (HV1.out.below hb23)
  have HE2 := Lib.hid (HV2.out.below hb23)
  have HE3 := Lib.hid (ents_of_owns o3)
  clear o3 gr3 hb23 HV1 HV2 HR0 hb1 hb2 Q17 Q18
  rw [List.nil_append] at HE3
  go_loopw [37] (fun s37 wr => ∃ k : Nat, k ≤ 3 ∧ s37 = .int .i64 k ∧ RowKit.Below w3.heap.size w3 wr) (fun s37 _ => 3 - (intOf s37).toNat)
  case atStart => exact ⟨0, by omega, rfl, RowKit.Below.refl _ _⟩
  case round =>
    obtain ⟨k, hk, rfl, hb⟩ := hrel
    by_cases hlt : k < 3
    · obtain ⟨vx, L, hix, HEX, HSX, hll⟩ : ∃ vx L, ((k = 0 ∧ vx = .slice ad R.length c) ∨ (k = 1 ∧ vx = .slice ad1 O.length c1) ∨ (k = 2 ∧ vx = .slice ad2 S.length c2)) ∧ Hid (Ents w3 vx L) ∧ Hid (ShortE L) ∧ L.length ≤ 50 := by
        rcases (show k = 0 ∨ k = 1 ∨ k = 2 by omega) with rfl | rfl | rfl
        · exact ⟨_, R, .inl ⟨rfl, rfl⟩, HE0, HS0, hn1⟩
        · exact ⟨_, O, .inr (.inl ⟨rfl, rfl⟩), Lib.hid HE1.out.ents, Lib.hid (short_small HO1.out), hol⟩
        · exact ⟨_, S, .inr (.inr ⟨rfl, rfl⟩), Lib.hid HE2.out.ents, Lib.hid (short_small HO2.out), by omega⟩
      have x0 := fun W => three_at (.slice ad R.length c) (.slice ad1 O.length c1) (.slice ad2 S.length c2) k vx hix W
      have q19 := fun W (h : RowKit.Below w3.heap.size w3 W) => entCheck_any L vx W (HEX.out.below h) HSX.out (by omega)
      have q20 := fun W (h : RowKit.Below w3.heap.size w3 W) => entRefCheck_any L vx W (HEX.out.below h) HSX.out (by omega)
      have q22 := fun W (h : RowKit.Below w3.heap.size w3 W) => live_any L vx W (HEX.out.below h) (by omega)
      have q23 := fun W (h : RowKit.Below w3.heap.size w3 W) => refLive_any L vx W (HEX.out.below h) (by omega)
      have hlv := liveT_length L
      obtain ⟨p, hp⟩ : ∃ p, (checkE L).1 = p := ⟨_, rfl⟩
      obtain ⟨r, hr⟩ : ∃ p, (checkE L).2 = p := ⟨_, rfl⟩
      obtain ⟨V, hV⟩ : ∃ p, liveT L = p := ⟨_, rfl⟩
      rw [hp, hr] at q19 q20
      rw [hV] at q22 q23 hlv
      have Q19 := Lib.hid q19
      have Q20 := Lib.hid q20
      have Q22 := Lib.hid q22
      have Q23 := Lib.hid q23
      clear hp hr hV q19 q20 q22 q23 hix
      go_wp2_with (first
        | (go_at_call 19; (with_reducible refine (Q19.out _ hb).mono ?_); rintro e w4 ⟨rfl, hb4⟩; have hb := Below.next hb hb4)
        | (go_at_call 20; (with_reducible refine (Q20.out _ hb).mono ?_); rintro e w5 ⟨rfl, hb5⟩; have hb := Below.next hb hb5)
        | (go_at_call 22; (with_reducible refine (Q22.out _ hb).mono ?_); rintro e w6 ⟨v6, rfl, o6, hb6⟩; have HE6 := Lib.hid (ents_of_owns o6); clear o6; have hb := Below.next hb hb6)
        | (go_at_call 23; (with_reducible refine (Q23.out _ hb).mono ?_); rintro e w7 ⟨v7, rfl, o7, hb7⟩; have HE7 := Lib.hid (ents_of_owns o7); clear o7; have HE6 := Lib.hid (HE6.out.below hb7); have hb := Below.next hb hb7)
        | (go_at_call 21; (with_reducible refine (same_true _ _ _ _ HE6.out HE7.out (by omega)).mono ?_); rintro e w8 ⟨rfl, hb8⟩; have hb := Below.next hb hb8))
      exact ⟨⟨k + 1, by omega, by go_num, hb⟩, by simp [intOf]; omega⟩
    · clear hk
      have q24 := fun W (h : RowKit.Below w3.heap.size w3 W) => with_any O S _ _ W HO3.out HO4.out (HE1.out.below h) (HE2.out.below h).ents (by omega) (by omega)
      have q25 := fun W (h : RowKit.Below w3.heap.size w3 W) => refWith_any O S _ _ W HO3.out (HE1.out.below h).ents (HE2.out.below h).ents (by omega) (by omega)
      have q24b := fun W (h : RowKit.Below w3.heap.size w3 W) => with_any [] R _ _ W rfl bared_nil (rowE_nil W) (HE0.out.below h) (by simp) (by omega)
      have q25b := fun W (h : RowKit.Below w3.heap.size w3 W) => refWith_any [] R _ _ W rfl (ents_nil W) (HE0.out.below h) (by simp) (by omega)
      have hT := withT_length O S
      have hU := withT_length [] R
      rw [List.length_nil] at hU
      obtain ⟨T, hT'⟩ : ∃ T, withT O S = T := ⟨_, rfl⟩
      obtain ⟨U, hU'⟩ : ∃ T, withT [] R = T := ⟨_, rfl⟩
      rw [hT'] at q24 q25 hT
      rw [hU'] at q24b q25b hU
      have Q24 := Lib.hid q24
      have Q25 := Lib.hid q25
      have Q24b := Lib.hid q24b
      have Q25b := Lib.hid q25b
      clear hT' hU' q24 q25 q24b q25b
      go_upto_region 15 with (first
        | (go_at_call 24; (with_reducible refine (Q24.out _ hb).mono ?_); rintro e w4 ⟨v4, rfl, r4, hb4⟩; have HE4 := Lib.hid r4.ents; clear r4; have hb := Below.next hb hb4)
        | (go_at_call 25; (with_reducible refine (Q25.out _ hb).mono ?_); rintro e w5 ⟨v5, rfl, r5, hb5⟩; have HE5 := Lib.hid r5.ents; clear r5; have HE4 := Lib.hid (HE4.out.below hb5); have hb := Below.next hb hb5)
        | (go_at_call 24; (with_reducible refine (Q24b.out _ hb).mono ?_); rintro e w7 ⟨v7, rfl, r7, hb7⟩; have HE7 := Lib.hid r7.ents; clear r7; have hb := Below.next hb hb7)
        | (go_at_call 25; (with_reducible refine (Q25b.out _ hb).mono ?_); rintro e w8 ⟨v8, rfl, r8, hb8⟩; have HE8 := Lib.hid r8.ents; clear r8; have HE7 := Lib.hid (HE7.out.below hb8); have hb := Below.next hb hb8)
        | (go_at_call 21; (with_reducible refine (same_true _ _ _ _ HE4.out HE5.out (by omega)).mono ?_); rintro e w6 ⟨rfl, hb6⟩; have hb := Below.next hb hb6)
        | (go_at_call 21; (with_reducible refine (same_true _ _ _ _ HE7.out HE8.out (by omega)).mono ?_); rintro e w15 ⟨rfl, hb15⟩; have hb := Below.next hb hb15))
      go_wp2_with (first
        | (at_builtin; refine wpList_append_ents rfl _ _ rfl rfl w15.heap.size (.slice (some ⟨w15.heap.size, 0, none⟩) 0 0) _ [] O rfl rfl (World.ownsRow_made w15 #[] 0 (Nat.le_refl _) (by unfold maxLen; omega) rfl) (HE1.out.below (below_alloc' hb)).ents (by simp; omega) (by simp) ?_; intro v16 w16 o16 gr16; have hb15' := hb; have hb := (below_alloc' (o := .cells #[] 24) hb).grown gr16 (by have := hb15'.size; simp; omega) (fun k hk => by have := hb15'.size; simp [Value.ownBlock] at hk; omega); have hz16 : w15.heap.size < w16.heap.size := (by have := gr16.size; simp at this; omega))
        | (at_builtin; refine wpList_append_ents rfl _ _ rfl rfl w15.heap.size v16 _ ([] ++ O) S rfl rfl o16 (HE2.out.below hb).ents (by simp; omega) (by omega) ?_; intro v17 w17 o17 gr17; have hb := hb.grown gr17 hb.size (fun k hk => Nat.le_trans hb15'.size (o16.lt k hk).1); have hz17 : w15.heap.size < w17.heap.size := Nat.lt_of_lt_of_le hz16 gr17.size)
        | (at_builtin; refine wpList_append_ents rfl _ _ rfl rfl w15.heap.size v17 _ ([] ++ O ++ S) [default] rfl rfl (o17.alloc _) (ents_single (x := default) rfl) (by simp; omega) (by simp; omega) ?_; intro v18 w18 o18 gr18; have hb := (below_alloc' (o := .cells #[.string ⟨#[]⟩, .int .u32 0, .bool false] 24) hb).grown gr18 (by have := hb.size; simp; omega) (fun k hk => Nat.le_trans hb15'.size (o17.lt k hk).1)))
      have hx1 : ([] ++ O ++ S ++ [default]).length ≤ 71 := by simp; omega
      generalize [] ++ O ++ S ++ [default] = X at o18 hx1
      obtain ⟨ad18, c18, rfl, hc18, hd18, hex⟩ := rowE_owns o18
      obtain ⟨_, _, hvx, hcx⟩ := ents_cell hex
      cases hvx
      have HC := Lib.hid hcx
      clear hcx
      have HP := Lib.hid hb
      clear hex o18 gr18 gr17 gr16 o17 o16

      go_loopw [17] (fun s17 wr => ∃ k : Nat, k ≤ X.length ∧ s17 = .int .i64 k ∧ RowKit.Below w18.heap.size w18 wr) (fun s17 _ => X.length - (intOf s17).toNat)
      case atStart => exact ⟨0, Nat.zero_le _, rfl, RowKit.Below.refl _ _⟩
      case round =>
        obtain ⟨k, hk, rfl, hb⟩ := hrel
        by_cases hlt : k < X.length
        · have HK : Hid (∃ b o, ad18 = some ⟨b, o, none⟩ ∧ (∀ W, RowKit.Below w18.heap.size w18 W → W.cell? ⟨b, o + k * 3, none⟩ = some (.string (ent X k).word) ∧ b < W.heap.size)) := Lib.hid (by
            obtain ⟨b, o, ha, hE⟩ := HC.out k hlt
            exact ⟨b, o, ha, fun W hW => ⟨(hE.below hW).1, block_lt_of_cell (hE.below hW).1⟩⟩)
          obtain ⟨b, o, rfl, hk2⟩ := HK.out
          obtain ⟨x, hx⟩ : ∃ x, (ent X k).word = x := ⟨_, rfl⟩
          rw [hx] at hk2
          have HK2 := Lib.hid hk2
          obtain ⟨c0, hbl⟩ := hk2 _ hb
          have hbn : b ≠ wr.heap.size := Nat.ne_of_lt hbl
          have q26 := fun W (h : RowKit.Below w18.heap.size w18 W) => find_any O _ x W HO3.out (HE1.out.below (Below.next HP.out h)).ents (by omega)
          have q27 := fun W (h : RowKit.Below w18.heap.size w18 W) => refFind_any O _ x W (HE1.out.below (Below.next HP.out h)).ents (by omega)
          rw [bare_found HO4.out] at q26
          obtain ⟨f, hf⟩ : ∃ f, foundT O x.data.toList = f := ⟨_, rfl⟩
          obtain ⟨t, ht⟩ : ∃ t, isE O x.data.toList = t := ⟨_, rfl⟩
          rw [hf, ht] at q26 q27
          unfold enc at q26 q27
          have Q26 := Lib.hid q26
          have Q27 := Lib.hid q27
          clear hx hk2 hf ht q26 q27
          go_wp2_with (first
            | (go_at_call 26; (with_reducible refine (Q26.out _ hb).mono ?_); rintro e w19 ⟨rfl, hb19⟩; have hb := Below.next hb hb19; obtain ⟨c0, hbl⟩ := HK2.out _ hb; have hbn := Nat.ne_of_lt hbl)
            | (go_at_call 27; (with_reducible refine (Q27.out _ (below_alloc' hb)).mono ?_); rintro e w20 ⟨rfl, hb20⟩; have hz20 : w19.heap.size < w20.heap.size := (by have := hb20.size; simp at this; omega); obtain ⟨b0, b1, b2⟩ := box_kept hb20; have hb := Below.next (below_alloc' hb) hb20))
          exact ⟨⟨k + 1, by omega, by go_num, below_alloc' hb⟩, by simp [intOf]; omega⟩
        · have HA := Lib.hid (HE1.out.below (Below.next HP.out hb))
          have HB := Lib.hid (HE3.out.below (Below.next HP.out hb))
          go_wp2_with (first
            | (go_at_call 21; (with_reducible refine (same_true _ _ _ _ HA.out.ents HB.out (by omega)).mono ?_); rintro e w21 ⟨rfl, hb21⟩)
            | (go_at_call 16; (with_reducible refine (works_any _).mono ?_); rintro e w22 ⟨rfl, hb22⟩))
          go_ret
          exact ⟨rfl, Below.next hbw3 (Below.next HP.out (Below.next hb (Below.next hb21 hb22)))⟩
end Go.Proofs.Ytfnmmnbndfdpiaa

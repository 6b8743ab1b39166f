/-
  TrieTells: the node that is a row of bytes.
-/
import Derived.Test.YtclaadiclgfbmaaG30
import Derived.Deep.RegionWith
set_option linter.unusedVariables false
set_option linter.unusedSimpArgs false
namespace Go.Proofs.Ytclaadiclgfbmaa
open Go.RowKit Go.Shelf

theorem got_w (t : Tr) (s : ByteArray) : (gotE t s).weight = vW (t.get s.data.toList) := by
  unfold gotE vW; cases t.get s.data.toList <;> rfl
theorem got_g (t : Tr) (s : ByteArray) : (gotE t s).gone = vG (t.get s.data.toList) := by
  unfold gotE vG; cases t.get s.data.toList <;> rfl
theorem got_i (t : Tr) (s : ByteArray) : (t.get s.data.toList).isSome = vI (t.get s.data.toList) := rfl
theorem root_val_down (t : Tr) (s : List UInt8) : (t.root.down s).val = t.get s := Tr.root_get t s

set_option maxRecDepth 100000 in
set_option maxHeartbeats 4000000 in
theorem nodes_any (t : Tr) (T R : Nat) (s : ByteArray) (w : World) (hT : TrieAt w T (fun k => k ≠ T) t) (hf : Fit t) (hR : RefT w R (t.all [])) (hs : s.size ≤ 900) :
    Calls Try.prog 27 #[.pointer (some ⟨T, 0, none⟩), .pointer (some ⟨R, 0, none⟩), .string s] w fun e w' => e = .returned (.bool true) ∧ Below w.heap.size w w' := by
  have hgood : t.Good := by obtain ⟨p, _, _, _, h⟩ := hT; exact h
  have hl : (t.all []).length ≤ 500 := Nat.le_trans hf.1 (by decide)
  have hkl : (t.root.down s.data.toList).keys.length < 50 := by
    rw [root_keys_down]
    exact (hf.slim hgood s.data.toList).1
  obtain ⟨ks, hks⟩ : ∃ ks, ks = keysL (t.all []) s.data.toList := ⟨_, rfl⟩
  have hke : (t.root.down s.data.toList).keys = ks := by rw [root_keys_down, keys_down hgood, hks]
  obtain ⟨ib, hib⟩ : ∃ ib, ib = (!(underT (t.all []) s.data.toList).isEmpty || s.data.toList.isEmpty) := ⟨_, rfl⟩
  obtain ⟨S, hS⟩ : ∃ S, S = t.root.down s.data.toList := ⟨_, rfl⟩
  have hibS : ib = !S.isNil := by rw [hib, hS, root_is hgood]
  have HN : Hid (Calls Try.prog 35 #[.pointer (some ⟨T, 0, none⟩), .string s] w fun e w' => ∃ p, e = .returned (.tuple #[nodeV p, .bool ib]) ∧ NodeO (fun _ => True) w' S p ∧ (ib = !S.isNil) ∧ Below w.heap.size w w') := Lib.hid (by
    have hi := hibS
    refine (node_any hT s (by omega)).mono ?_
    rintro e w' ⟨p, rfl, h1, h2⟩
    rw [← hS] at h1 ⊢
    rw [← hi]
    exact ⟨p, rfl, h1, rfl, h2⟩)
  have HI : Hid (∀ W, Below w.heap.size w W → Calls Try.prog 84 #[.pointer (some ⟨R, 0, none⟩), .string s] W fun e w' => e = .returned (.bool ib) ∧ Below W.heap.size W w') := Lib.hid fun W hb => by
    rw [hib]
    exact ris_any _ R s W (hR.below hb) hl hf.2 (by omega)
  obtain ⟨g, hg⟩ : ∃ g, g = t.get s.data.toList := ⟨_, rfl⟩
  have HG : Hid (∀ W, Below w.heap.size w W → Calls Try.prog 24 #[.pointer (some ⟨R, 0, none⟩), .string s] W fun e w' => ∃ z, e = .returned (.tuple #[.agg #[.string z, .int .u32 (vW g : Int), .bool (vG g)], .bool (vI g)]) ∧ Below W.heap.size W w') := Lib.hid fun W hb => by
    refine (rget_any t R s W (hR.below hb) hl).mono ?_
    rintro e w' ⟨rfl, h⟩
    exact ⟨(gotE t s).word, by unfold gotV; rw [got_w, got_g, got_i, hg], h⟩
  have HB : Hid (∀ W, Below w.heap.size w W → Calls Try.prog 86 #[.pointer (some ⟨R, 0, none⟩), .string s] W fun e w' => ∃ v, e = .returned v ∧ BRow w' v ks ∧ Below W.heap.size W w') := Lib.hid fun W hb => by
    have := rbytes_any _ R s W (hR.below hb) hl hf.2 hs
    rw [← hks] at this
    exact this
  have HV : Hid (∀ W q, NodeO (fun _ => True) W S (some q) → Calls Try.prog 85 #[.agg #[.pointer (some ⟨q, 0, none⟩)]] W fun e w' => e = .returned (.tuple #[.int .u32 (vW g : Int), .bool (vG g), .bool (vI g)]) ∧ Below W.heap.size W w') := Lib.hid fun W q h => by
    have := value_some h
    rw [hS, root_val_down, ← hg] at this
    exact this
  have HK : Hid (∀ W q, NodeO (fun _ => True) W S (some q) → Calls Try.prog 36 #[.agg #[.pointer (some ⟨q, 0, none⟩)]] W fun e w' => ∃ v, e = .returned v ∧ BRow w' v ks ∧ Below W.heap.size W w') := Lib.hid fun W q h => by
    have := bytes_at h (by rw [hS]; exact hkl)
    rw [hS, hke] at this
    exact this
  clear hT hf hR hgood hl hkl hks hke hib hS hg
  obtain ⟨gw, hgw⟩ : ∃ gw, gw = vW g := ⟨_, rfl⟩
  obtain ⟨gg, hgg⟩ : ∃ gg, gg = vG g := ⟨_, rfl⟩
  obtain ⟨gi, hgi⟩ : ∃ gi, gi = vI g := ⟨_, rfl⟩
  rw [← hgw, ← hgg, ← hgi] at HG HV
  clear hgw hgg hgi
  cases hnil : S.isNil with
  | true =>
    have HN0 : Hid (Calls Try.prog 35 #[.pointer (some ⟨T, 0, none⟩), .string s] w fun e w' => e = .returned (.tuple #[.agg #[.pointer none], .bool false]) ∧ Below w.heap.size w w') := Lib.hid (by
      refine HN.out.mono ?_
      rintro e w' ⟨p, rfl, h1, h2, h3⟩
      have h4 := h1.isSome
      rw [hnil] at h4 h2
      cases p with
      | none => rw [h2]; exact ⟨rfl, h3⟩
      | some q => cases h4)
    have hib : ib = false := by rw [hibS, hnil]; rfl
    clear hibS
    subst hib
    clear HN hnil HG HB HV HK
    go_enter Try.func27, Try.ntmps27
    go_wp2_with (first
      | (go_at_call 35; (with_reducible refine Calls.mono HN0.out ?_); rintro e w1 ⟨rfl, hb1⟩; have H1 := Lib.hid hb1; clear hb1)
      | (go_at_call 84; (with_reducible refine Calls.mono (HI.out _ (below_alloc' H1.out)) ?_); rintro e w2 ⟨rfl, hb2⟩; have H2 := Lib.hid hb2; obtain ⟨c7, f7⟩ := bcell hb2; clear hb2)
      | (go_at_call 36; (with_reducible refine Calls.mono (bytes_none _) ?_); rintro e w3 ⟨rfl, hb3⟩; have H3 := Lib.hid hb3; clear hb3))
    go_ret
    exact ⟨rfl, Below.next (Below.next (below_alloc' H1.out) H2.out) H3.out⟩
  | false =>
    have HN1 : Hid (Calls Try.prog 35 #[.pointer (some ⟨T, 0, none⟩), .string s] w fun e w' => ∃ q, e = .returned (.tuple #[.agg #[.pointer (some ⟨q, 0, none⟩)], .bool true]) ∧ NodeO (fun _ => True) w' S (some q) ∧ Below w.heap.size w w') := Lib.hid (by
      refine HN.out.mono ?_
      rintro e w' ⟨p, rfl, h1, h2, h3⟩
      have h4 := h1.isSome
      rw [hnil] at h4 h2
      cases p with
      | none => cases h4
      | some q => rw [h2]; exact ⟨q, rfl, h1, h3⟩)
    have hib : ib = true := by rw [hibS, hnil]; rfl
    clear hibS
    subst hib
    clear HN hnil
    go_enter Try.func27, Try.ntmps27
    go_upto_region 5 with (first
      | (go_at_call 35; (with_reducible refine Calls.mono HN1.out ?_); rintro e w1 ⟨q, rfl, hn1, hb1⟩; have H1 := Lib.hid hb1; have HN1 := Lib.hid hn1; clear hb1 hn1)
      | (go_at_call 84; (with_reducible refine Calls.mono (HI.out _ (below_alloc' H1.out)) ?_); rintro e w2 ⟨rfl, hb2⟩; have H2 := Lib.hid hb2; obtain ⟨c7, f7⟩ := bcell hb2; clear hb2))
    have BX7 : Hid (∀ W, Below (w1.alloc (.cells #[.agg #[.pointer (some ⟨q, 0, none⟩)]] 49)).heap.size (w1.alloc (.cells #[.pointer (some ⟨q, 0, none⟩)] 49)) W → True) := Lib.hid fun _ _ => trivial
    obtain ⟨wA, hwA⟩ : ∃ wA, wA = w1.alloc (.cells #[.pointer (some ⟨q, 0, none⟩)] 49) := ⟨_, rfl⟩
    have HBX : Hid (∀ W, Below wA.heap.size wA W → W.cell? ⟨w1.heap.size, 0, none⟩ = some (.pointer (some ⟨q, 0, none⟩))) := Lib.hid fun W h => (boxed_below (by rw [hwA]; exact Boxed.new w1 49 _ : Boxed wA w1.heap.size 49 (.pointer (some ⟨q, 0, none⟩))) h).cell
    have HNX : Hid (∀ W, Below wA.heap.size wA W → NodeO (fun _ => True) W S (some q)) := Lib.hid fun W h => (HN1.out.below (by rw [hwA]; exact below_alloc _ _)).below h
    have HA2 : Hid (Below wA.heap.size wA w2) := Lib.hid (by rw [hwA]; exact H2.out)
    have H0A : Hid (Below w.heap.size w wA) := Lib.hid (by rw [hwA]; exact below_alloc' H1.out)
    have hz1 : w1.heap.size < wA.heap.size := by rw [hwA]; simp
    clear BX7 HN1 H1 H2 hwA
    go_upto_region 8 with (first
      | (go_at_call 85; (with_reducible refine Calls.mono (HV.out _ _ (HNX.out _ HA2.out)) ?_); rintro e w3 ⟨rfl, hb3⟩; have H3 := Lib.hid (Below.next HA2.out hb3); clear hb3)
      | (go_at_call 24; (with_reducible refine Calls.mono (HG.out _ (Below.next H0A.out H3.out)) ?_); rintro e w4 ⟨z, rfl, hb4⟩; have H4 := Lib.hid (Below.next H3.out hb4); clear hb4))
    obtain ⟨wB, hwB⟩ : ∃ wB, wB = w4.alloc (.cells #[.string z, .int .u32 (gw : Int), .bool gg] 33) := ⟨_, rfl⟩
    have HC : Hid (∀ W, Below wB.heap.size wB W → W.cell? ⟨w4.heap.size, 0, none⟩ = some (.string z) ∧ W.cell? ⟨w4.heap.size, 1, none⟩ = some (.int .u32 (gw : Int)) ∧ W.cell? ⟨w4.heap.size, 2, none⟩ = some (.bool gg)) := Lib.hid fun W h => box_kept (by rw [← hwB]; exact h)
    have HBB : Hid (Below wA.heap.size wA wB) := Lib.hid (by rw [hwB]; exact below_alloc' H4.out)
    have HBX' : Hid (∀ W, Below wB.heap.size wB W → W.cell? ⟨w1.heap.size, 0, none⟩ = some (.pointer (some ⟨q, 0, none⟩))) := Lib.hid fun W h => HBX.out W (Below.next HBB.out h)
    have HNB : Hid (∀ W, Below wB.heap.size wB W → NodeO (fun _ => True) W S (some q)) := Lib.hid fun W h => HNX.out W (Below.next HBB.out h)
    have H0B : Hid (Below w.heap.size w wB) := Lib.hid (Below.next H0A.out HBB.out)
    rw [← hwB]
    clear hwB H3 H4 HA2 HBX HNX HBB H0A HV HG HI
    have CX : Hid (∀ W, Below wB.heap.size wB W → W.cell? ⟨w1.heap.size, 0, none⟩ = some (.pointer (some ⟨q, 0, none⟩)) ∧ W.cell? ⟨w4.heap.size, 0, none⟩ = some (.string z) ∧ W.cell? ⟨w4.heap.size, 1, none⟩ = some (.int .u32 (gw : Int)) ∧ W.cell? ⟨w4.heap.size, 2, none⟩ = some (.bool gg) ∧ Below wB.heap.size wB W) := Lib.hid fun W h => ⟨HBX'.out W h, (HC.out W h).1, (HC.out W h).2.1, (HC.out W h).2.2, h⟩
    have e1 : ((gw : Int) == (gw : Int)) = true := by simp
    have e2 : ((⟨ks.toArray⟩ : ByteArray).toList == (⟨ks.toArray⟩ : ByteArray).toList) = true := by simp
    have e3 : (gi == gi) = true := by simp
    have e4 : (gg == gg) = true := by simp
    obtain ⟨c7, c0, c1, c2, -⟩ := CX.out _ (Below.refl _ wB)
    obtain ⟨c7D, c0D, c1D, c2D, -⟩ := CX.out wB.drew (Below.refl _ wB).drew
    go_region_with
      (first
        | (go_at_call 36; (with_reducible refine Calls.mono (HK.out _ _ (HNB.out _ (by repeat (first | with_reducible exact Below.refl _ _ | (with_reducible refine Below.drew ?_))))) ?_); rintro e w5 ⟨v5, rfl, hr5, hb5⟩; have N1 : Below wB.heap.size wB w5 := Below.next (by repeat (first | with_reducible exact Below.refl _ _ | (with_reducible refine Below.drew ?_))) hb5; have hv5 := conv_str hr5; have hr5' : BRow w5.drew v5 ks := hr5; have hv5d := conv_str hr5'; have HR5 := Lib.hid hr5; obtain ⟨d7, d0, d1, d2, -⟩ := CX.out _ N1; clear hr5 hb5 hr5')
        | (go_at_call 86; (with_reducible refine Calls.mono (HB.out _ (Below.next H0B.out (by repeat (first | with_reducible exact N1 | (with_reducible refine Below.drew ?_))))) ?_); rintro e w6 ⟨v6, rfl, hr6, hb6⟩; have N2 : Below wB.heap.size wB w6 := Below.next (by repeat (first | with_reducible exact N1 | (with_reducible refine Below.drew ?_))) hb6; have hv6 := conv_str hr6; have hr6' : BRow w6.drew v6 ks := hr6; have hv6d := conv_str hr6'; have hv56 := conv_str (HR5.out.below hb6); clear hr6 hb6 hr6'))
    all_goals go_wp2_with fail
    all_goals go_ret
    all_goals exact ⟨rfl, Below.next H0B.out N2⟩
end Go.Proofs.Ytclaadiclgfbmaa

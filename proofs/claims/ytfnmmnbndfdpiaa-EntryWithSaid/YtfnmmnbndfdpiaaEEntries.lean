/-
  Lists of drafts, as entries, and as lists.
-/
import Derived.Test.YtfnmmnbndfdpiaaEDraft
namespace Go.Proofs.Ytfnmmnbndfdpiaa
open Go.RowKit Go.Sort

instance : Inhabited Draft := ⟨⟨[], 0, false⟩⟩

/-- A draft lies there. -/
def DraftAt (w : World) (b o : Nat) (d : Draft) : Prop :=
  ∃ u, w.cell? ⟨b, o, none⟩ = some u ∧ w.cell? ⟨b, o + 1, none⟩ = some (.int .u32 (d.weight : Int)) ∧ w.cell? ⟨b, o + 2, none⟩ = some (.bool d.gone) ∧ DraftV w (.agg #[u, .int .u32 (d.weight : Int), .bool d.gone]) d ∧ d.letters.length ≤ 9223372036854775807

theorem DraftAt.below {w w' : World} {b o : Nat} {d : Draft} (h : DraftAt w b o d) (hb : RowKit.Below w.heap.size w w') : DraftAt w' b o d := by
  obtain ⟨u, h1, h2, h3, h4, h5⟩ := h
  refine ⟨u, ?_, ?_, ?_, h4.below hb, h5⟩
  · rw [hb.cell (p := ⟨b, o, none⟩) (block_lt_of_cell h1)]; exact h1
  · rw [hb.cell (p := ⟨b, o + 1, none⟩) (block_lt_of_cell h2)]; exact h2
  · rw [hb.cell (p := ⟨b, o + 2, none⟩) (block_lt_of_cell h3)]; exact h3

/-- v is a slice that holds these drafts. -/
def Drafts (w : World) (v : Value) (l : List Draft) : Prop :=
  ∃ ad c, v = .slice ad l.length c ∧ ∀ i, i < l.length → ∃ b o, ad = some ⟨b, o, none⟩ ∧ DraftAt w b (o + i * 3) (l.getD i default)

theorem Drafts.below {w w' : World} {v : Value} {l : List Draft} (h : Drafts w v l) (hb : RowKit.Below w.heap.size w w') : Drafts w' v l := by
  obtain ⟨ad, c, hv, hc⟩ := h
  refine ⟨ad, c, hv, fun i hi => ?_⟩
  obtain ⟨b, o, ha, hci⟩ := hc i hi
  exact ⟨b, o, ha, hci.below hb⟩

/-- What the drafts say, so many at most. -/
def entriesT (l : List Draft) (most : Nat) : List Ent := (l.take most).map draftE

theorem entries_snoc (l : List Draft) (k : Nat) (h : k < l.length) : entriesT l (k + 1) = entriesT l k ++ [draftE (l.getD k default)] := by
  unfold entriesT
  rw [List.take_succ_eq_append_getElem h, List.map_append]
  simp [List.getD, h]
theorem entriesT_length (l : List Draft) (most : Nat) : (entriesT l most).length ≤ most := by
  unfold entriesT
  rw [List.length_map]
  exact List.length_take_le _ _

set_option maxHeartbeats 1000000 in
set_option maxRecDepth 100000 in
theorem entries_any (l : List Draft) (v : Value) (most : Nat) (w : World) (hv : Drafts w v l) (hm : most ≤ 1000) (_hlen : l.length ≤ 9223372036854775807) :
    Calls Try.prog 18 #[v, .int .i64 (most : Nat)] w fun e w' => ∃ v', e = .returned v' ∧ RowE w' v' (entriesT l most) ∧ RowKit.Below w.heap.size w w' := by
  obtain ⟨ad, cp, rfl, hc⟩ := hv
  have HC : Hid (∀ W, RowKit.Below w.heap.size w W → ∀ i, i < l.length → ∃ b o, ad = some ⟨b, o, none⟩ ∧ DraftAt W b (o + i * 3) (l.getD i default)) := Lib.hid fun W hW i hi => by
    obtain ⟨b, o, ha, hE⟩ := hc i hi
    exact ⟨b, o, ha, hE.below hW⟩
  clear hc
  go_enter Try.func18, Try.ntmps18
  go_wp2
  go_loopw [5, 6] (fun s5 s6 wr => ∃ k : Nat, k ≤ l.length ∧ k ≤ most ∧ s6 = .int .i64 k ∧ wr.ownsRow w.heap.size 24 3 s5 (entriesT l k).length (ents (entriesT l k)) ∧ RowKit.Below w.heap.size w wr) (fun _ s6 _ => most - (intOf s6).toNat)
  case atStart => exact ⟨0, Nat.zero_le _, Nat.zero_le _, rfl, ownsE_nil w _, RowKit.Below.refl _ _⟩
  case round =>
    obtain ⟨k, hk, hkm, rfl, hown, hb⟩ := hrel
    by_cases hlt : k < l.length ∧ k < most
    · obtain ⟨hl1, hl2⟩ := hlt
      obtain ⟨b, o, rfl, hE⟩ := HC.out _ hb k hl1
      have hsn := entries_snoc l k hl1
      have hle := entriesT_length l k
      obtain ⟨d, hd⟩ : ∃ d, l.getD k default = d := ⟨_, rfl⟩
      rw [hd] at hE hsn
      obtain ⟨u, h1, h2, h3, h4, h5⟩ := hE
      have q28 := draft_any d _ wr h4 h5
      obtain ⟨y, hy⟩ : ∃ y, draftE d = y := ⟨_, rfl⟩
      rw [hy] at q28 hsn
      obtain ⟨O, hO⟩ : ∃ O, entriesT l k = O := ⟨_, rfl⟩
      rw [hO] at hsn hown hle
      unfold enc at q28
      have HS := Lib.hid hsn
      have HOW := Lib.hid hown
      have HLT := Lib.hid hown.lt
      have hszr := hb.size
      clear hd hy hsn hO hown h4 h5
      go_wp2_with (first
        | (go_at_call 28; (with_reducible refine q28.mono ?_); rintro e w1 ⟨rfl, hb1⟩; have hsz1 := hb1.size; have HO1 := Lib.hid ((owns_below HOW.out hb1).alloc (.cells #[.string y.word, .int .u32 (y.weight : Int), .bool y.gone] 24)); have HO2 := Lib.hid (ents_single (w := w1) (x := y) (g := w1.heap.size) rfl))
        | (at_builtin; refine wpList_append_ents rfl _ _ rfl rfl w.heap.size _ _ O [y] rfl rfl HO1.out HO2.out (by simp; omega) (by simp; omega) ?_; intro v' w2 o2 gr2))
      exact ⟨⟨k + 1, by omega, by omega, by go_num, by rw [HS.out]; exact o2, (below_alloc' (o := .cells #[.string y.word, .int .u32 (y.weight : Int), .bool y.gone] 24) (Below.next hb hb1)).grown gr2 (by simp; omega) (fun j hj => (HLT.out j hj).1)⟩, by simp [intOf]; omega⟩
    · have he : entriesT l k = entriesT l most := by
        unfold entriesT
        rcases Nat.lt_or_ge k l.length with h | h
        · rw [show k = most by omega]
        · rw [List.take_of_length_le h, List.take_of_length_le (by omega)]
      rw [he] at hown
      have HOW := Lib.hid hown
      have hd : ¬ k < l.length ∨ (k < l.length ∧ ¬ k < most) := by omega
      clear hown he hlt
      rcases hd with h1 | ⟨h1, h2⟩
      all_goals
        go_wp2
        go_ret
        exact ⟨_, rfl, rowE_owns HOW.out, hb⟩

theorem list_any (l : List Draft) (v : Value) (most : Nat) (w : World) (hv : Drafts w v l) (hm : most ≤ 1000) (_hlen : l.length ≤ 9223372036854775807) :
    Calls Try.prog 17 #[v, .int .i64 (most : Nat)] w fun e w' => ∃ v', e = .returned v' ∧ RowE w' v' (withT [] (entriesT l most)) ∧ RowKit.Below w.heap.size w w' := by
  have q18 := entries_any l v most w hv hm _hlen
  have hle := entriesT_length l most
  obtain ⟨E, hE⟩ : ∃ E, entriesT l most = E := ⟨_, rfl⟩
  rw [hE] at q18 hle ⊢
  have q25 := fun ve w0 (h : Ents w0 ve E) => refWith_any [] E (.slice none 0 0) ve w0 rfl (ents_nil w0) h (by simp) (by omega)
  have Q25 := Lib.hid q25
  obtain ⟨ad, c, rfl, _⟩ := hv
  clear hE q25
  go_enter Try.func17, Try.ntmps17
  go_wp2_with (first
    | (go_at_call 18; (with_reducible refine q18.mono ?_); rintro e w1 ⟨v1, rfl, h1, hb1⟩; have q := Q25.out _ _ h1.ents)
    | (go_at_call 25; (with_reducible refine q.mono ?_); rintro e w2 ⟨v2, rfl, h2, hb2⟩))
  go_ret
  exact ⟨_, rfl, h2, Below.next hb1 hb2⟩
end Go.Proofs.Ytfnmmnbndfdpiaa

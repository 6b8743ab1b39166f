/-
  The document's list with an entry, and with some entries.
-/
import Derived.Test.YtfnmmnbndfdpiaaEFind
import Derived.Test.YtfnmmnbndfdpiaaECheck
namespace Go.Proofs.Ytfnmmnbndfdpiaa
open Go.RowKit Go.Sort

theorem putE_split {l : List Ent} (h : risingE l = true) (e : Ent) : putE l e = l.take (placeE l (key e)) ++ e :: l.filter fun x => ltE e x := by
  induction l with
  | nil => rfl
  | cons x l ih =>
    have h' := risingE_cons.1 h
    rw [placeE_cons]
    unfold putE
    by_cases h1 : ltE x e = true
    · rw [if_pos h1, if_pos (show Plain.less (key x) (key e) = true from h1), List.take_succ_cons, ih h'.2, List.filter_cons, swoE.asymmA h1]
      rfl
    · rw [if_neg h1, if_neg (show ¬ Plain.less (key x) (key e) = true from h1)]
      by_cases h2 : ltE e x = true
      · rw [if_pos h2, List.filter_eq_self.2 (fun y hy => by
          rcases List.mem_cons.1 hy with rfl | hy
          · exact h2
          · exact swoE.trans _ _ _ h2 (h'.1 y hy))]
        rfl
      · rw [if_neg h2, List.filter_cons, if_neg h2, List.filter_eq_self.2 (fun y hy => by
          have hk : key x = key e := by
            by_cases c : key x = key e
            · exact c
            · exact absurd (ltE_of (by simpa using h1) c) h2
          have := h'.1 y hy
          rw [ltE_def] at this ⊢
          rwa [← hk])]
        rfl

theorem owns_below {w w' : World} {base : Nat} {e : TypeId} {size : Nat} {v : Value} {n : Nat} {xs : List Value} (h : w.ownsRow base e size v n xs) (hb : RowKit.Below w.heap.size w w') : w'.ownsRow base e size v n xs := by
  refine ⟨h.1, ?_⟩
  rcases h.2 with h' | ⟨g, cap, cur, h1, h2, h3, h4⟩
  · exact .inl h'
  · exact .inr ⟨g, cap, cur, h1, h2, (hb.block g (Array.getElem?_eq_some_iff.1 h3).1).trans h3, h4⟩

/-- The test whether a word is greater. -/
theorem gt_facts (x y : Ent) : (lessT x.word y.word = true → Op.bytesLess y.word.toList x.word.toList = false ∧ (y.word.toList == x.word.toList) = false) ∧
    (lessT x.word y.word = false → Op.bytesLess y.word.toList x.word.toList = true ∨ (Op.bytesLess y.word.toList x.word.toList = false ∧ (y.word.toList == x.word.toList) = true)) := by
  rw [bytesLess_T, key_beq]
  constructor
  · intro h
    exact ⟨swoE.asymmA (show ltE x y = true from h), decide_eq_false (ltE_key _ _ (show ltE x y = true from h)).symm⟩
  · intro h
    cases h2 : lessT y.word x.word with
    | true => exact .inl rfl
    | false =>
      refine .inr ⟨rfl, decide_eq_true ?_⟩
      by_cases e : key y = key x
      · exact e
      · have := ltE_of (show ltE y x = false from h2) e
        rw [show ltE x y = _ from h] at this
        cases this

theorem filter_snoc (p : Ent → Bool) (l : List Ent) (k : Nat) (h : k < l.length) : (l.take (k + 1)).filter p = if p (ent l k) = true then (l.take k).filter p ++ [ent l k] else (l.take k).filter p := by
  rw [List.take_succ_eq_append_getElem h, List.filter_append, ent_lt h]
  cases hg : p l[k] <;> simp [hg]
theorem take_snocE (l : List Ent) (k : Nat) (h : k < l.length) : l.take (k + 1) = l.take k ++ [ent l k] := by
  rw [List.take_succ_eq_append_getElem h, ent_lt h]

theorem below_of_ge {l : List Ent} (h : risingE l = true) (c : List UInt8) {k : Nat} (hk : placeE l c ≤ k) (hl : k < l.length) : Plain.less (key (ent l k)) c = false := by
  refine place_behind h c _ ?_
  rw [ent_lt hl]
  exact List.mem_drop_iff_getElem.2 ⟨k - placeE l c, by omega, by congr 1; omega⟩
theorem less_of_lt (l : List Ent) (c : List UInt8) {k : Nat} (hk : k < placeE l c) : Plain.less (key (ent l k)) c = true := by
  have hl := placeE_le l c
  refine place_before (l := l) c _ ?_
  rw [ent_lt (by omega)]
  exact List.mem_take_iff_getElem.2 ⟨k, by omega, rfl⟩

set_option maxHeartbeats 2000000 in
set_option maxRecDepth 100000 in
theorem refOne_any (l : List Ent) (v : Value) (x : Ent) (w : World) (hr : risingE l = true) (hv : Ents w v l) (hlen : l.length ≤ 100000) :
    Calls Try.prog 43 #[v, .agg (enc x).toArray] w fun e w' => ∃ v', e = .returned v' ∧ RowE w' v' (putE l (bare x)) ∧ RowKit.Below w.heap.size w w' := by
  obtain ⟨ad, cp, rfl, hc⟩ := ents_cell hv
  have HC : Hid (∀ W, RowKit.Below w.heap.size w W → ∀ i, i < l.length → ∃ b o, ad = some ⟨b, o, none⟩ ∧ EntAt W b (o + i * 3) (ent l i)) := Lib.hid fun W hW i hi => by
    obtain ⟨b, o, ha, hE⟩ := hc i hi
    exact ⟨b, o, ha, hE.below hW⟩
  have hsplit := putE_split hr (bare x)
  have hsplit2 : putE l (bare x) = l.take (placeE l (key x)) ++ bare x :: l.filter fun y => ltE x y := by
    rw [hsplit, key_bare]
    congr 2
    exact List.filter_congr fun y _ => by rw [ltE_def, ltE_def, key_bare]
  have HP := Lib.hid hsplit2
  have hge := fun k (h1 : placeE l (key x) ≤ k) (h2 : k < l.length) => below_of_ge hr (key x) h1 h2
  have hlt := fun k (h1 : k < placeE l (key x)) => less_of_lt l (key x) h1
  have hple := placeE_le l (key x)
  obtain ⟨p, hp⟩ : ∃ p, placeE l (key x) = p := ⟨_, rfl⟩
  rw [hp] at HP hge hlt hple
  have HGE := Lib.hid hge
  have HLT := Lib.hid hlt
  have q44 := fun w0 => refBare_any x w0
  obtain ⟨z, hz⟩ : ∃ z, bare x = z := ⟨_, rfl⟩
  rw [hz] at q44 HP ⊢
  obtain ⟨X, hX⟩ : ∃ X : Obj, X = .cells #[.string x.word, .int .u32 (x.weight : Int), .bool x.gone] 24 := ⟨_, rfl⟩
  have HBX : Hid (∀ W, RowKit.Below (w.alloc X).heap.size (w.alloc X) W → EntAt W w.heap.size 0 x) := Lib.hid fun W hW => by
    rw [hX] at hW
    exact box_kept hW
  unfold enc at q44 ⊢
  clear hc hv hsplit hsplit2 hge hlt hp hz hr
  go_enter Try.func43, Try.ntmps43
  go_wp2
  rw [← hX]
  have hb0 := RowKit.Below.refl (w.alloc X).heap.size (w.alloc X)
  have hsz0 : (w.alloc X).heap.size = w.heap.size + 1 := by simp
  clear hX
  go_loopw [5, 6] (fun s5 s6 wr => ∃ k : Nat, k ≤ p ∧ s6 = .int .i64 k ∧ wr.ownsRow (w.alloc X).heap.size 24 3 s5 (l.take k).length (ents (l.take k)) ∧ RowKit.Below (w.alloc X).heap.size (w.alloc X) wr) (fun _ s6 _ => l.length - (intOf s6).toNat)
  case atStart => exact ⟨0, Nat.zero_le _, rfl, ownsE_nil _ _, hb0⟩
  case round =>
    obtain ⟨k, hk, rfl, hown, hb⟩ := hrel
    obtain ⟨g1, g2, g3⟩ := HBX.out wr hb
    have hbw := Below.next (below_alloc w X) hb
    have hsz := hb.size
    by_cases hlt : k < l.length
    · obtain ⟨b, o, rfl, hE⟩ := HC.out wr hbw k hlt
      have hE0 := hE
      obtain ⟨h1, h2, h3⟩ := hE
      have hd : decide ((k : Int) < (l.length : Int)) = true := decide_eq_true (by omega)
      have hbl := bytesLess_T (ent l k).word x.word
      have hsn := take_snocE l k hlt
      by_cases hkp : k < p
      · have hl : lessT (ent l k).word x.word = true := HLT.out k hkp
        rw [hl] at hbl
        obtain ⟨y, hy⟩ : ∃ y, ent l k = y := ⟨_, rfl⟩
        rw [hy] at h1 h2 h3 hbl hsn hE0
        have HS := Lib.hid hsn
        have HE : Hid (EntAt wr b (o + k * 3) y) := Lib.hid hE0
        have HOW := Lib.hid hown
        have hlk : (l.take k).length ≤ k := List.length_take_le _ _
        clear hl hy hsn hE0 hown
        go_wp2
        go_quiet (fail)
        have hb2 := below_drewN hb nq
        have hown2 : (wr.drewN nq).ownsRow (w.alloc X).heap.size 24 3 _ (l.take k).length (ents (l.take k)) := HOW.out
        have hE2 : EntAt (wr.drewN nq) b (o + k * 3) y := HE.out
        clear h1 h2 h3 g1 g2 g3 HE HOW
        generalize wr.drewN nq = w2 at hb2 hown2 hE2 ⊢
        obtain ⟨h1, h2, h3⟩ := hE2
        have hO1 := Lib.hid (hown2.alloc (.cells #[.string y.word, .int .u32 (y.weight : Int), .bool y.gone] 24))
        have hO2 := Lib.hid (ents_single (w := w2) (x := y) (g := w2.heap.size) rfl)
        go_wp2_with (at_builtin; refine wpList_append_ents rfl _ _ rfl rfl (w.alloc X).heap.size _ _ (l.take k) [y] rfl rfl hO1.out hO2.out (by simp; omega) (by have := hb2.size; simp at this ⊢; omega) ?_; intro v' w' o1 gr1)
        exact ⟨⟨k + 1, by omega, by go_num, by rw [HS.out]; exact o1, (below_alloc' hb2).grown gr1 (by have := hb2.size; simp at this ⊢; omega) (fun j hj => (hown2.lt j hj).1)⟩, by simp [intOf]; omega⟩
      · have hl : lessT (ent l k).word x.word = false := HGE.out k (by omega) hlt
        rw [hl] at hbl
        obtain rfl : k = p := by omega
        obtain ⟨y, hy⟩ : ∃ y, ent l k = y := ⟨_, rfl⟩
        rw [hy] at h1 h2 h3 hbl
        have HOW := Lib.hid hown
        clear hl hy hsn hE0 hown
        go_wp2
        go_quiet (fail)
        have hb2 := below_drewN hb nq
        have hown2 : (wr.drewN nq).ownsRow (w.alloc X).heap.size 24 3 _ (l.take k).length (ents (l.take k)) := HOW.out
        clear h1 h2 h3 g1 g2 g3 HOW
        generalize wr.drewN nq = w2 at hb2 hown2 ⊢
        obtain ⟨g1, g2, g3⟩ := HBX.out w2 hb2
        have hgl : w.heap.size < w2.heap.size := block_lt_of_cell g1
        have hlk : (l.take k).length ≤ k := List.length_take_le _ _
        have hszw := hb2.size
        have HOWN := Lib.hid hown2
        have HB2 := Lib.hid hb2
        have hlt2 := hown2.lt
        have HLT2 := Lib.hid hlt2
        clear hown2 hb2 hlt2
        go_wp2_with (first
          | (go_at_call 44; (with_reducible refine (q44 _).mono ?_); rintro e w3 ⟨rfl, hb3⟩; have hsz3 := hb3.size; have HO1 := Lib.hid ((owns_below HOWN.out hb3).alloc (.cells #[.string z.word, .int .u32 (z.weight : Int), .bool z.gone] 24)); have HO2 := Lib.hid (ents_single (w := w3) (x := z) (g := w3.heap.size) rfl))
          | (at_builtin; refine wpList_append_ents rfl _ _ rfl rfl (w.alloc X).heap.size _ _ (l.take k) [z] rfl rfl HO1.out HO2.out (by simp; omega) (by simp at hszw ⊢; omega) ?_; intro v' w4 o4 gr4))
        have hb4 := (below_alloc' (o := .cells #[.string z.word, .int .u32 (z.weight : Int), .bool z.gone] 24) (Below.next HB2.out hb3)).grown gr4 (by have := HB2.out.size; simp at this ⊢; omega) (fun j hj => (HLT2.out j hj).1)
        clear hb3 HO1 HO2 gr4
        generalize hP : l.take k ++ [z] = A at o4
        have hA : A.length ≤ k + 1 := by rw [← hP]; simp; omega
        have HP1 := Lib.hid hP
        clear hP
        go_loopw [5, 7] (fun s5 s7 wr => ∃ j : Nat, j ≤ l.length ∧ s7 = .int .i64 j ∧ wr.ownsRow (w.alloc X).heap.size 24 3 s5 (A ++ (l.take j).filter fun y => ltE x y).length (ents (A ++ (l.take j).filter fun y => ltE x y)) ∧ RowKit.Below (w.alloc X).heap.size (w.alloc X) wr) (fun _ s7 _ => l.length - (intOf s7).toNat)
        case atStart => exact ⟨0, Nat.zero_le _, rfl, by simpa using o4, hb4⟩
        case round =>
          clear o4 hb4
          obtain ⟨j, hj, rfl, hown, hb⟩ := hrel
          obtain ⟨g1, g2, g3⟩ := HBX.out wr hb
          have hbw := Below.next (below_alloc w X) hb
          have hsz := hb.size
          by_cases hlt : j < l.length
          · obtain ⟨b, o, hadd, hE⟩ := HC.out wr hbw j hlt
            cases hadd
            have hE0 := hE
            obtain ⟨h1, h2, h3⟩ := hE
            have hsn := filter_snoc (fun y => ltE x y) l j hlt
            have hfl : ((l.take j).filter fun y => ltE x y).length ≤ l.length := Nat.le_trans (List.length_filter_le ..) (by rw [List.length_take]; omega)
            obtain ⟨F, hF⟩ : ∃ F, ((l.take j).filter fun y => ltE x y) = F := ⟨_, rfl⟩
            rw [hF] at hsn hown hfl
            obtain ⟨y, hy⟩ : ∃ y, ent l j = y := ⟨_, rfl⟩
            rw [hy] at h1 h2 h3 hE0 hsn
            have hgt := gt_facts x y
            have HE : Hid (EntAt wr b (o + j * 3) y) := Lib.hid hE0
            have HOW := Lib.hid hown
            cases hc : lessT x.word y.word with
            | true =>
              obtain ⟨hbl, hbe⟩ := hgt.1 hc
              rw [if_pos (show ltE x y = true from hc)] at hsn
              have HS := Lib.hid hsn
              clear hgt hc hy hsn hE0 hown hF
              go_wp2
              go_quiet (fail)
              have hb2 := below_drewN hb nq
              have hown2 : (wr.drewN nq).ownsRow (w.alloc X).heap.size 24 3 _ (A ++ F).length (ents (A ++ F)) := HOW.out
              have hE2 : EntAt (wr.drewN nq) b (o + j * 3) y := HE.out
              clear h1 h2 h3 g1 g2 g3 HE HOW
              generalize wr.drewN nq = w5 at hb2 hown2 hE2 ⊢
              obtain ⟨h1, h2, h3⟩ := hE2
              have hO1 := Lib.hid (hown2.alloc (.cells #[.string y.word, .int .u32 (y.weight : Int), .bool y.gone] 24))
              have hO2 := Lib.hid (ents_single (w := w5) (x := y) (g := w5.heap.size) rfl)
              go_wp2_with (at_builtin; refine wpList_append_ents rfl _ _ rfl rfl (w.alloc X).heap.size _ _ (A ++ F) [y] rfl rfl hO1.out hO2.out (by simp; omega) (by have := hb2.size; simp at this ⊢; omega) ?_; intro v' w' o1 gr1)
              exact ⟨⟨j + 1, by omega, by go_num, by rw [HS.out, ← List.append_assoc]; exact o1, (below_alloc' hb2).grown gr1 (by have := hb2.size; simp at this ⊢; omega) (fun q hq => (hown2.lt q hq).1)⟩, by simp [intOf]; omega⟩
            | false =>
              rcases hgt.2 hc with hbl | ⟨hbl, hbe⟩
              all_goals
                rw [if_neg (show ¬ ltE x y = true by rw [show ltE x y = _ from hc]; simp)] at hsn
                have HS := Lib.hid hsn
                clear hgt hc hy hsn hE0 hown hF HE
                go_wp2
                go_quiet (fail)
                have hb2 := below_drewN hb nq
                have hown2 : (wr.drewN nq).ownsRow (w.alloc X).heap.size 24 3 _ (A ++ F).length (ents (A ++ F)) := HOW.out
                clear h1 h2 h3 g1 g2 g3 HOW
                generalize wr.drewN nq = w5 at hb2 hown2 ⊢
                go_wp2
                exact ⟨⟨j + 1, by omega, by go_num, by rw [HS.out]; exact hown2, hb2⟩, by simp [intOf]; omega⟩
          · obtain rfl : j = l.length := by omega
            rw [List.take_length] at hown
            have HOW := Lib.hid hown
            clear hown
            go_wp2
            go_ret
            refine ⟨_, rfl, ?_, hbw⟩
            have hh := rowE_owns HOW.out
            rw [HP.out]
            rwa [← HP1.out, List.append_assoc] at hh
    · obtain rfl : k = p := by omega
      have hd : decide ((k : Int) < (l.length : Int)) = false := decide_eq_false (by omega)
      have HOW := Lib.hid hown
      clear hown
      go_wp2
      go_quiet (fail)
      have hb2 := below_drewN hb nq
      have hown2 : (wr.drewN nq).ownsRow (w.alloc X).heap.size 24 3 _ (l.take k).length (ents (l.take k)) := HOW.out
      clear g1 g2 g3 HOW
      generalize wr.drewN nq = w2 at hb2 hown2 ⊢
      obtain ⟨g1, g2, g3⟩ := HBX.out w2 hb2
      have hgl : w.heap.size < w2.heap.size := block_lt_of_cell g1
      have hlk : (l.take k).length ≤ k := List.length_take_le _ _
      have hszw := hb2.size
      have HOWN := Lib.hid hown2
      have HB2 := Lib.hid hb2
      have hlt2 := hown2.lt
      have HLT2 := Lib.hid hlt2
      clear hown2 hb2 hlt2
      go_wp2_with (first
        | (go_at_call 44; (with_reducible refine (q44 _).mono ?_); rintro e w3 ⟨rfl, hb3⟩; have hsz3 := hb3.size; have HO1 := Lib.hid ((owns_below HOWN.out hb3).alloc (.cells #[.string z.word, .int .u32 (z.weight : Int), .bool z.gone] 24)); have HO2 := Lib.hid (ents_single (w := w3) (x := z) (g := w3.heap.size) rfl))
        | (at_builtin; refine wpList_append_ents rfl _ _ rfl rfl (w.alloc X).heap.size _ _ (l.take k) [z] rfl rfl HO1.out HO2.out (by simp; omega) (by simp at hszw ⊢; omega) ?_; intro v' w4 o4 gr4))
      have hb4 := (below_alloc' (o := .cells #[.string z.word, .int .u32 (z.weight : Int), .bool z.gone] 24) (Below.next HB2.out hb3)).grown gr4 (by have := HB2.out.size; simp at this ⊢; omega) (fun j hj => (HLT2.out j hj).1)
      clear hb3 HO1 HO2 gr4
      generalize hP : l.take k ++ [z] = A at o4
      have hA : A.length ≤ k + 1 := by rw [← hP]; simp; omega
      have HP1 := Lib.hid hP
      clear hP
      go_loopw [5, 7] (fun s5 s7 wr => ∃ j : Nat, j ≤ l.length ∧ s7 = .int .i64 j ∧ wr.ownsRow (w.alloc X).heap.size 24 3 s5 (A ++ (l.take j).filter fun y => ltE x y).length (ents (A ++ (l.take j).filter fun y => ltE x y)) ∧ RowKit.Below (w.alloc X).heap.size (w.alloc X) wr) (fun _ s7 _ => l.length - (intOf s7).toNat)
      case atStart => exact ⟨0, Nat.zero_le _, rfl, by simpa using o4, hb4⟩
      case round =>
        clear o4 hb4
        obtain ⟨j, hj, rfl, hown, hb⟩ := hrel
        obtain ⟨g1, g2, g3⟩ := HBX.out wr hb
        have hbw := Below.next (below_alloc w X) hb
        have hsz := hb.size
        by_cases hlt : j < l.length
        · obtain ⟨b, o, hadd, hE⟩ := HC.out wr hbw j hlt
          cases hadd
          have hE0 := hE
          obtain ⟨h1, h2, h3⟩ := hE
          have hsn := filter_snoc (fun y => ltE x y) l j hlt
          have hfl : ((l.take j).filter fun y => ltE x y).length ≤ l.length := Nat.le_trans (List.length_filter_le ..) (by rw [List.length_take]; omega)
          obtain ⟨F, hF⟩ : ∃ F, ((l.take j).filter fun y => ltE x y) = F := ⟨_, rfl⟩
          rw [hF] at hsn hown hfl
          obtain ⟨y, hy⟩ : ∃ y, ent l j = y := ⟨_, rfl⟩
          rw [hy] at h1 h2 h3 hE0 hsn
          have hgt := gt_facts x y
          have HE : Hid (EntAt wr b (o + j * 3) y) := Lib.hid hE0
          have HOW := Lib.hid hown
          cases hc : lessT x.word y.word with
          | true =>
            obtain ⟨hbl, hbe⟩ := hgt.1 hc
            rw [if_pos (show ltE x y = true from hc)] at hsn
            have HS := Lib.hid hsn
            clear hgt hc hy hsn hE0 hown hF
            go_wp2
            go_quiet (fail)
            have hb2 := below_drewN hb nq
            have hown2 : (wr.drewN nq).ownsRow (w.alloc X).heap.size 24 3 _ (A ++ F).length (ents (A ++ F)) := HOW.out
            have hE2 : EntAt (wr.drewN nq) b (o + j * 3) y := HE.out
            clear h1 h2 h3 g1 g2 g3 HE HOW
            generalize wr.drewN nq = w5 at hb2 hown2 hE2 ⊢
            obtain ⟨h1, h2, h3⟩ := hE2
            have hO1 := Lib.hid (hown2.alloc (.cells #[.string y.word, .int .u32 (y.weight : Int), .bool y.gone] 24))
            have hO2 := Lib.hid (ents_single (w := w5) (x := y) (g := w5.heap.size) rfl)
            go_wp2_with (at_builtin; refine wpList_append_ents rfl _ _ rfl rfl (w.alloc X).heap.size _ _ (A ++ F) [y] rfl rfl hO1.out hO2.out (by simp; omega) (by have := hb2.size; simp at this ⊢; omega) ?_; intro v' w' o1 gr1)
            exact ⟨⟨j + 1, by omega, by go_num, by rw [HS.out, ← List.append_assoc]; exact o1, (below_alloc' hb2).grown gr1 (by have := hb2.size; simp at this ⊢; omega) (fun q hq => (hown2.lt q hq).1)⟩, by simp [intOf]; omega⟩
          | false =>
            rcases hgt.2 hc with hbl | ⟨hbl, hbe⟩
            all_goals
              rw [if_neg (show ¬ ltE x y = true by rw [show ltE x y = _ from hc]; simp)] at hsn
              have HS := Lib.hid hsn
              clear hgt hc hy hsn hE0 hown hF HE
              go_wp2
              go_quiet (fail)
              have hb2 := below_drewN hb nq
              have hown2 : (wr.drewN nq).ownsRow (w.alloc X).heap.size 24 3 _ (A ++ F).length (ents (A ++ F)) := HOW.out
              clear h1 h2 h3 g1 g2 g3 HOW
              generalize wr.drewN nq = w5 at hb2 hown2 ⊢
              go_wp2
              exact ⟨⟨j + 1, by omega, by go_num, by rw [HS.out]; exact hown2, hb2⟩, by simp [intOf]; omega⟩
        · obtain rfl : j = l.length := by omega
          rw [List.take_length] at hown
          have HOW := Lib.hid hown
          clear hown
          go_wp2
          go_ret
          refine ⟨_, rfl, ?_, hbw⟩
          have hh := rowE_owns HOW.out
          rw [HP.out]
          rwa [← HP1.out, List.append_assoc] at hh
end Go.Proofs.Ytfnmmnbndfdpiaa

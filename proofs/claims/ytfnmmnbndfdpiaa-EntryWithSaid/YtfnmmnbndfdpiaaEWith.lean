/-
  The program's list with some entries.
-/
import Derived.Test.YtfnmmnbndfdpiaaEGrow
import Derived.Test.YtfnmmnbndfdpiaaELasts
import Derived.Test.YtfnmmnbndfdpiaaEPlace
namespace Go.Proofs.Ytfnmmnbndfdpiaa
open Go.RowKit Go.Sort

theorem RowE.drop {W : World} {ad : Option Addr} {c p : Nat} {l : List Ent} (h : RowE W (.slice ad l.length c) l) (hp : p ≤ l.length) :
    RowE W (.slice (if c = p then ad else Option.map (fun x => x.add (p * 3)) ad) (l.length - p) (c - p)) (l.drop p) := by
  obtain ⟨ad', c', hv, h1, h2, h3⟩ := h
  cases hv
  have := Ents.drop h3 h1 hp
  exact ⟨_, _, by rw [List.length_drop], by rw [List.length_drop]; omega, by omega, by rw [List.length_drop]; exact this⟩

theorem mergeE_cons (l : List Ent) (x : Ent) (m : List Ent) : mergeE l (x :: m) = l.take (placeE l (key x)) ++ x :: mergeE (l.drop (if isE l (key x) = true then placeE l (key x) + 1 else placeE l (key x))) m := rfl

theorem drop_cons (l : List Ent) (k : Nat) (h : k < l.length) : l.drop k = ent l k :: l.drop (k + 1) := by
  rw [ent_lt h]; exact List.drop_eq_getElem_cons h

/-- Each entry of the row counts as it weighs. -/
theorem bare_step (M : List Ent) (k : Nat) (h : k < M.length) : ((M.take k).map bare ++ M.drop k).set k (bare (ent M k)) = (M.take (k + 1)).map bare ++ M.drop (k + 1) := by
  have hl : ((M.take k).map bare).length = k := by simp; omega
  rw [drop_cons M k h, List.set_append_right _ _ (by omega), hl, Nat.sub_self, List.set_cons_zero, take_snocE M k h, List.map_append]
  simp
theorem bare_at (M : List Ent) (k : Nat) (h : k < M.length) : ent ((M.take k).map bare ++ M.drop k) k = ent M k := by
  have hl : ((M.take k).map bare).length = k := by simp; omega
  rw [ent_lt (by simp; omega), ent_lt h, List.getElem_append_right (by omega), List.getElem_drop]
  congr 1
  omega
theorem bare_len (M : List Ent) (k : Nat) (h : k ≤ M.length) : ((M.take k).map bare ++ M.drop k).length = M.length := by simp; omega

theorem rowW_of_owns {W : World} {base g cap : Nat} {l : List Ent} (h : W.ownsRow base 24 3 (.slice (some ⟨g, 0, none⟩) l.length cap) l.length (ents l)) : RowW W g l := by
  have := rowW_of_holds (holdsK_of_owns h)
  simpa using this

/-- The row that an append leaves: no block yet, or a block of one's own. -/
theorem owns_shape {W : World} {base : Nat} {v : Value} {l : List Ent} (h : W.ownsRow base 24 3 v l.length (ents l)) :
    ∃ ad c, v = .slice ad l.length c ∧ l.length ≤ c ∧ c ≤ 9223372036854775807 ∧ (l = [] ∧ ad = none ∨ ∃ g, ad = some ⟨g, 0, none⟩ ∧ base ≤ g ∧ g < W.heap.size ∧ RowW W g l) := by
  have hz := rowE_owns h
  obtain ⟨ad, c, rfl, h1, h2, _⟩ := hz
  refine ⟨ad, c, rfl, h1, h2, ?_⟩
  rcases h.2 with ⟨he, h0⟩ | ⟨g', cap, cur, he, hg, hg', _⟩
  · injection he with a1 a2 a3
    exact .inl ⟨List.length_eq_zero_iff.1 a2, a1⟩
  · injection he with a1 a2 a3
    subst a1
    exact .inr ⟨g', rfl, hg, (Array.getElem?_eq_some_iff.1 hg').1, rowW_of_owns h⟩

/-- Where the row lies behind an append: where it lay, or in a new block. -/
theorem append_at (W : World) (base : Nat) (v sl : Value) (A B : List Ent) (hown : W.ownsRow base 24 3 v A.length (ents A)) (hB : Ents W sl B) (hlen : A.length + B.length ≤ 1000000) {v' : Value} {W' : World}
    (hrun : (Builtin.append_ #[37, 37] 37 #[v, sl]).run Try.prog W = .ok v' W') : ∀ g, v'.ownBlock = some g → v.ownBlock = some g ∨ W.heap.size ≤ g := by
  obtain ⟨i0, hi, hz0, hz1, hz2⟩ := info_parts i24
  obtain ⟨ad, c, rfl, hx⟩ := id hB
  intro g hgb
  by_cases h0 : B = []
  · subst h0
    cases ad with
    | none =>
      have hr := run_append_nilE W base v A.length c (ents A) hown
      rw [show ([] : List Ent).length = 0 from rfl, hr] at hrun
      cases hrun
      exact .inl hgb
    | some a =>
      rcases hown.2 with ⟨rfl, h0⟩ | ⟨g', cap, cur, rfl, _, hg', hnc, _, hcs, _⟩
      · have hr : (Builtin.append_ #[37, 37] 37 #[.slice none 0 0, .slice (some a) 0 c]).run Try.prog W = .ok (.slice none 0 0) W := by
          simp [Builtin.append_, run_underlying Try.underlying37, sizeOf, typeInfo, hi, Builtin.lenOf, Builtin.firstCells, loadCells, loadCellsFrom]
        rw [show ([] : List Ent).length = 0 from rfl, hr] at hrun
        cases hrun
        exact .inl hgb
      · have hr := run_append_room (P := Try.prog) W 37 37 24 i0 Try.underlying37 hi g' A.length cap cur hg' a 0 c [] (by simp) (by simp) (by simp) (by omega) (by rw [hz1, hcs]; simp; omega)
        rw [show ([] : List Ent).length = 0 from rfl, hr] at hrun
        cases hrun
        exact .inl hgb
  · have hbl : 0 < B.length := List.length_pos_iff.2 h0
    obtain ⟨b, o, rfl, _⟩ := hx 0 hbl
    have hnews := hB.cells
    rcases hown.2 with ⟨rfl, h1⟩ | ⟨g', cap, cur, rfl, _, hg', hnc, _, hcs, _⟩
    · have hr := run_append_nil (P := Try.prog) W 37 37 24 i0 (.agg #[.string ⟨#[]⟩, .int .u32 0, .bool false]) Try.underlying37 hi hz0 ⟨b, o, none⟩ B.length c (ents B) (by rw [hz1]; exact ents_length B) hnews hbl (by omega) (by rw [hz2]; omega)
      rw [hr] at hrun
      cases hrun
      have h2 : some W.heap.size = some g := hgb
      injection h2 with h3
      exact .inr (by omega)
    · by_cases hroom : A.length + B.length ≤ cap
      · have hr := run_append_room (P := Try.prog) W 37 37 24 i0 Try.underlying37 hi g' A.length cap cur hg' ⟨b, o, none⟩ B.length c (ents B) (by rw [hz1]; exact ents_length B) hnews (ents_one B) hroom (by rw [hz1, ents_length, hcs]; omega)
        rw [hr] at hrun
        cases hrun
        exact .inl hgb
      · have hr := run_append_grow (P := Try.prog) W 37 37 24 i0 (.agg #[.string ⟨#[]⟩, .int .u32 0, .bool false]) Try.underlying37 hi hz0 ⟨g', 0, none⟩ A.length cap (ents A) (by rw [hz1]; exact hown.1) (hown.cells (g := g') rfl) ⟨b, o, none⟩ B.length c (ents B) (by rw [hz1]; exact ents_length B) hnews (by omega) (by omega) (growslice_fits (by omega) (by rw [hz2]; omega))
        rw [hr] at hrun
        cases hrun
        have h2 : some W.heap.size = some g := hgb
        injection h2 with h3
        exact .inr (by omega)

theorem mergeE_length : ∀ (m l : List Ent), (mergeE l m).length ≤ l.length + m.length
  | [], l => by simp [mergeE]
  | x :: m, l => by
    have ih := mergeE_length m (l.drop (if isE l (key x) = true then placeE l (key x) + 1 else placeE l (key x)))
    have hp := placeE_le l (key x)
    rw [mergeE_cons, List.length_append, List.length_cons, List.length_take, List.length_cons]
    rw [List.length_drop] at ih
    split at ih <;> simp_all <;> omega

/-- append, as a step of a region that draws its order; and where the row lies behind it. -/
theorem step_append_at {ops : Array Oper} {o : Oper} {a : Act} {w0 w : World} {K : Act → World → Prop} {Q : Exit → Act → World → Prop} {E : Prop}
    (hg : o.guard = none) (s x : Operand) (hop : o.op = Op.call { callee := Callee.builtin Builtin.append, args := #[s, x], argTypes := #[37, 37] }) (ht : o.type = 37) (v sl : Value) (A B : List Ent)
    (hs : a.eval s = v) (hx : a.eval x = sl) (hbel : RowKit.Below w0.heap.size w0 w) (hown : w.ownsRow w0.heap.size 24 3 v A.length (ents A)) (hsrc : Ents w sl B) (hlen : A.length + B.length ≤ 1000000)
    (hK : ∀ v' w1, w1.ownsRow w0.heap.size 24 3 v' (A ++ B).length (ents (A ++ B)) → w.grownBy w1 v.ownBlock → (∀ g, v'.ownBlock = some g → v.ownBlock = some g ∨ w.heap.size ≤ g) → RowKit.Below w0.heap.size w0 w1 → K (a.put o.dst v') w1) :
    if Region.wanted o (yielded ops a.tmps) = true then Oper.wp Try.prog o a w K Q else E := by
  obtain ⟨v', w1, h1, h2, h3⟩ := run_append_ents w w0.heap.size v sl A B hown hsrc hlen hbel.size
  have hat := append_at w w0.heap.size v sl A B hown hsrc hlen h1
  have hw : Region.wanted o (yielded ops a.tmps) = true := by simp [Region.wanted, hg]
  rw [if_pos hw]
  unfold Oper.wp execOp
  simp only [hop, ht, resolve, invoke, builtin, Sem.run_bind, Sem.run_pure, Result.andThen_ok, List.map_toArray, List.map_cons, List.map_nil, hs, hx, h1]
  exact hK v' w1 h2 h3 hat (hbel.grown h3 hbel.size (fun k hk => (hown.lt k hk).1))

set_option maxHeartbeats 2000000 in
set_option maxRecDepth 100000 in
theorem with_any (l es : List Ent) (v ve : Value) (w : World) (hr : risingE l = true) (hba : Bared l) (hv : RowE w v l) (hve : Ents w ve es) (hl : l.length ≤ 1000) (hle : es.length ≤ 1000) :
    Calls Try.prog 24 #[v, ve] w fun e w' => ∃ v', e = .returned v' ∧ RowE w' v' (withT l es) ∧ RowKit.Below w.heap.size w w' := by
  have hmw := merge_with hr hba es
  have hLr := lastsT_rising es
  have hLl := lastsT_length es
  obtain ⟨L, hL⟩ : ∃ L, lastsT es = L := ⟨_, rfl⟩
  rw [hL] at hmw hLr hLl
  have HMW := Lib.hid hmw
  have HLR := Lib.hid hLr
  have HV := Lib.hid hv
  have HVE := Lib.hid hve
  have HR := Lib.hid hr
  obtain ⟨N, hN⟩ : ∃ N, N = l.length + es.length := ⟨_, rfl⟩
  have q39 := fun w0 => grow_any N w0 (by omega)
  have q40 := fun w0 (h : Ents w0 ve es) => lasts_any es ve w0 h (by omega)
  rw [hL] at q40
  have Q40 := Lib.hid q40
  obtain ⟨adl, cl, rfl, hcl, hcl2, _⟩ := id hv
  obtain ⟨ade, ce, rfl, _⟩ := id hve
  have e1 : (l.length : Int) + (es.length : Int) = (N : Int) := by omega
  clear hmw hLr hL hv hve hr q40 hN
  go_enter Try.func24, Try.ntmps24
  go_wp2_with (first
    | (go_at_call 39; (with_reducible refine (q39 _).mono ?_); rintro e w1 ⟨v1, rfl, o1, hb1⟩)
    | (go_at_call 40; (with_reducible refine (Q40.out _ (HVE.out.below hb1)).mono ?_); rintro e w2 ⟨v2, rfl, hr2, hat2, hb2⟩; obtain ⟨ad2, c2, rfl, hc2, hc2', hE2⟩ := hr2; have HAT2 := Lib.hid hat2; clear hat2))
  have hbw2 := Below.next hb1 hb2
  have o2 := owns_below o1 hb2
  have HNE0 : Hid (∀ a, ad2 = some a → some a.block ≠ v1.ownBlock) := Lib.hid fun a ha h => by
    have h1 := HAT2.out a L.length c2 (by rw [ha])
    have h2 := (o1.lt _ h.symm).2
    omega
  have HM0 : Hid ([] ++ mergeE l (L.drop 0) = mergeE l L ∧ risingE l = true) := Lib.hid ⟨rfl, HR.out⟩
  have HTOT := Lib.hid (mergeE_length L l)
  clear HAT2 o1 hb1 hb2
  go_loopw [0, 5, 21] (fun s0 s5 s21 wr => ∃ (k : Nat) (rest acc : List Ent), k ≤ L.length ∧ s21 = .int .i64 k ∧ RowE w s0 rest ∧ rest.length ≤ l.length ∧ wr.ownsRow w.heap.size 24 3 s5 acc.length (ents acc) ∧ Ents wr (.slice ad2 L.length c2) L ∧ RowKit.Below w.heap.size w wr ∧ Hid (∀ a, ad2 = some a → some a.block ≠ s5.ownBlock) ∧ Hid (acc ++ mergeE rest (L.drop k) = mergeE l L ∧ risingE rest = true)) (fun _ _ s21 _ => L.length - (intOf s21).toNat)
  case atStart => exact ⟨0, l, [], Nat.zero_le _, rfl, HV.out, Nat.le_refl _, o2, hE2, hbw2, HNE0, HM0⟩
  case round =>
    clear o2 hE2 hbw2 HNE0 HM0
    obtain ⟨k, rest, acc, hk, rfl, hrow, hrl, hown, hLE, hb, HNE, HM⟩ := hrel
    have hacc : acc.length ≤ l.length + L.length := by
      have h1 := congrArg List.length HM.out.1
      rw [List.length_append] at h1
      have h2 := HTOT.out
      omega
    obtain ⟨adr, cr, rfl, hrc, hrc2, hrE⟩ := id hrow
    by_cases hlt : k < L.length
    · obtain ⟨ad', c', hv', hx⟩ := id hLE
      cases hv'
      obtain ⟨bL, oL, ha, hE⟩ := hx k hlt
      subst ha
      obtain ⟨h1, h2, h3⟩ := id hE
      have hM1 := HM.out.1
      rw [drop_cons L k hlt, mergeE_cons] at hM1
      obtain ⟨x, hxx⟩ : ∃ x, ent L k = x := ⟨_, rfl⟩
      rw [hxx] at h1 h2 h3 hM1
      have hbL : bL < wr.heap.size := block_lt_of_cell h1
      have hrw := hrE.below hb
      have q41 := place_any rest (.slice adr rest.length cr) x.word (wr.alloc (.cells #[.string x.word, .int .u32 (x.weight : Int), .bool x.gone] 24)) HM.out.2 (ents_alloc' (hrE.below hb)) (by omega)
      rw [show x.word.data.toList = key x from rfl] at q41
      have hple := placeE_le rest (key x)
      have hisp : isE rest (key x) = true → placeE rest (key x) + 1 ≤ rest.length := fun h => by obtain ⟨hp, _⟩ := findE_at HM.out.2 _ h; omega
      obtain ⟨p, hp⟩ : ∃ p, placeE rest (key x) = p := ⟨_, rfl⟩
      obtain ⟨r, hr'⟩ : ∃ r, isE rest (key x) = r := ⟨_, rfl⟩
      rw [hp, hr'] at q41 hM1
      rw [hp] at hple hisp
      rw [hr'] at hisp
      have HM1 := Lib.hid hM1
      have HROW := Lib.hid hrow
      have HOWN := Lib.hid hown
      have HLE := Lib.hid hLE
      have HRE := Lib.hid hrE
      have HLTO := Lib.hid hown.lt
      have hn : bL ≠ wr.heap.size := Nat.ne_of_lt hbL
      clear hM1 hrow hown hLE hrE hx hE hxx hp hr' hrw
      go_wp2_with (go_at_call 41; (with_reducible refine q41.mono ?_); rintro e w4 ⟨rfl, hb4⟩)
      have hsz4 : wr.heap.size + 1 ≤ w4.heap.size := by have := hb4.size; simp at this; exact this
      obtain ⟨k0, k1, k2⟩ := box_kept hb4
      have HB4 : Hid (RowKit.Below w.heap.size w w4) := Lib.hid (Below.next (below_alloc' hb) hb4)
      have HOW4 := Lib.hid (owns_below (HOWN.out.alloc (.cells #[.string x.word, .int .u32 (x.weight : Int), .bool x.gone] 24)) hb4)
      have HT4 := Lib.hid (Ents.take (HRE.out.below HB4.out) hple)
      have HL4 := Lib.hid ((ents_alloc' (o := .cells #[.string x.word, .int .u32 (x.weight : Int), .bool x.gone] 24) HLE.out).below hb4)
      have HNEL : Hid (∀ a, some (⟨bL, oL, none⟩ : Addr) = some a → some a.block ≠ _) := HNE
      have HNEB : Hid (some wr.heap.size ≠ _) := Lib.hid fun h => by have := (HLTO.out _ h.symm).2; omega
      have HNEN : Hid (some w4.heap.size ≠ _) := Lib.hid fun h => by have := (HLTO.out _ h.symm).2; omega
      have hbL4 : bL < w4.heap.size := by omega
      have hpc : p ≤ cr := by omega
      clear hb4 HNE HOWN HLE
      cases r
      all_goals
        go_region_law (first | (refine step_append_at (w0 := w) rfl (.tmp 32) (.tmp 35) rfl rfl u5 (.slice adr p cr) acc (rest.take p) rfl rfl (by repeat (first | (with_reducible exact HB4.out) | (with_reducible apply below_drew') | (with_reducible apply below_alloc'))) (by repeat (first | (with_reducible exact HOW4.out) | (with_reducible apply ownsE_drew') | (with_reducible apply World.ownsRow.alloc))) (by repeat (first | (with_reducible exact HT4.out) | (with_reducible apply ents_drew') | (with_reducible apply ents_alloc'))) (by simp; omega) ?_; intro v1' w1' o1' g1' at1' b1'; have hl1 := Ents.grown (by repeat (first | (with_reducible exact HL4.out) | (with_reducible apply ents_drew') | (with_reducible apply ents_alloc'))) g1' HNEL.out; try (have hx0 := World.grownBy.cell g1' k0 HNEB.out; have hx1 := World.grownBy.cell g1' k1 HNEB.out; have hx2 := World.grownBy.cell g1' k2 HNEB.out)) | (refine step_append_at (w0 := w) rfl (.tmp 36) (.tmp 38) rfl rfl v1' (.slice (some ⟨_, 0, none⟩) 1 1) (acc ++ rest.take p) [x] rfl rfl (by first | (with_reducible exact b1') | (with_reducible exact below_alloc' b1')) (by first | (with_reducible exact o1') | (with_reducible exact World.ownsRow.alloc o1' _)) (by first | (with_reducible exact ents_single rfl) | exact Ents.grown (by repeat (first | (with_reducible apply ents_drew') | ((with_reducible refine ents_single ?_); simp) | (with_reducible apply ents_alloc'))) g1' (fun a h => by cases h; exact HNEN.out)) (by simp; omega) ?_; intro v2' w2' o2' g2' at2' b2'))
      all_goals
        have hl2 : Ents w2' (.slice (some ⟨bL, oL, none⟩) L.length c2) L := by
          first
            | exact Ents.grown hl1 g2' (fun a ha h => by cases ha; rcases at1' _ h.symm with h | h; exact HNEL.out _ rfl h.symm; exact absurd hbL4 (Nat.not_lt.2 (by first | exact h | (simp at h; omega))))
            | exact Ents.grown (ents_alloc' hl1) g2' (fun a ha h => by cases ha; rcases at1' _ h.symm with h | h; exact HNEL.out _ rfl h.symm; exact absurd hbL4 (Nat.not_lt.2 (by first | exact h | (simp at h; omega))))
      all_goals
        have hne2 : Hid (∀ a, some (⟨bL, oL, none⟩ : Addr) = some a → some a.block ≠ v2'.ownBlock) := Lib.hid fun a ha h => by
          cases ha
          have hs1 := g1'.size
          rcases at2' _ h.symm with h | h
          · rcases at1' _ h with h | h
            · exact HNEL.out _ rfl h.symm
            · exact absurd hbL4 (Nat.not_lt.2 (by first | exact h | (simp at h; omega)))
          · exact absurd hbL4 (Nat.not_lt.2 (by first | (simp at h hs1; omega) | (have h4 := Nat.le_trans (show w4.heap.size ≤ _ from hs1) h; omega)))
      all_goals
        clear g1' g2' at1' at2' o1' hl1
        try (have hp1 := hisp rfl)
        clear hisp HV HVE Q40 q39 HLTO HRE h1 h2 h3 k0 k1 k2 q41
      all_goals (go_wp2_with fail)
      all_goals
        first
          | refine ⟨⟨k + 1, rest.drop p, acc ++ rest.take p ++ [x], by omega, rfl, RowE.drop HROW.out hple, by rw [List.length_drop]; omega, o2', hl2, b2', hne2, Lib.hid ⟨?_, risingE_drop HM.out.2 _⟩⟩, by simp [intOf]; omega⟩
          | refine ⟨⟨k + 1, rest.drop (p + 1), acc ++ rest.take p ++ [x], by omega, rfl, RowE.drop HROW.out hp1, by rw [List.length_drop]; omega, o2', hl2, b2', hne2, Lib.hid ⟨?_, risingE_drop HM.out.2 _⟩⟩, by simp [intOf]; omega⟩
        rw [← HM1.out]; simp [List.append_assoc]
    · obtain rfl : k = L.length := by omega
      have hM1 := HM.out.1
      rw [List.drop_length, show mergeE rest [] = rest from rfl] at hM1
      have hmw := HMW.out
      have htot := HTOT.out
      obtain ⟨M, hMM⟩ : ∃ M, mergeE l L = M := ⟨_, rfl⟩
      rw [hMM] at hM1 hmw htot
      have HM1 := Lib.hid hM1
      have HMF := Lib.hid hmw
      have HOWN := Lib.hid hown
      have HRE := Lib.hid (hrE.below hb)
      have hml : acc.length + rest.length ≤ 1000000 := by omega
      have hml2 : M.length ≤ 2000 := by omega
      clear hown hLE HNE HM hMM hM1 hmw htot HMW HTOT q39 Q40 HV HVE HR HLR hrow hrE
      go_wp2_with (at_builtin; refine wpList_append_ents rfl _ _ rfl rfl w.heap.size _ _ acc rest rfl rfl HOWN.out HRE.out hml hb.size ?_; intro v' wF oF gF; rw [HM1.out] at oF; have hbF := hb.grown gF hb.size (fun j hj => (HOWN.out.lt j hj).1); clear gF; obtain ⟨adF, cF, rfl, hcF, hcF2, hrF⟩ := owns_shape oF; clear oF)
      have hrF0 : M = [] ∧ adF = none ∨ ∃ g, adF = some ⟨g, 0, none⟩ ∧ w.heap.size ≤ g ∧ g < wF.heap.size ∧ RowW wF g ((M.take 0).map bare ++ M.drop 0) := by simpa using hrF
      clear hb HOWN HRE HM1 hrF
      go_loopw [52] (fun s52 wr => ∃ k : Nat, k ≤ M.length ∧ s52 = .int .i64 k ∧ RowKit.Below w.heap.size w wr ∧ (M = [] ∧ adF = none ∨ ∃ g, adF = some ⟨g, 0, none⟩ ∧ w.heap.size ≤ g ∧ g < wr.heap.size ∧ RowW wr g ((M.take k).map bare ++ M.drop k))) (fun s52 _ => M.length - (intOf s52).toNat)
      case atStart => exact ⟨0, Nat.zero_le _, rfl, hbF, hrF0⟩
      case round =>
        clear hbF hrF0
        obtain ⟨k, hk, rfl, hb, hr⟩ := hrel
        by_cases hlt : k < M.length
        · rcases hr with ⟨rfl, _⟩ | ⟨g, rfl, hg, hgw, hR⟩
          · simp at hlt
          have hE := hR.1 k (by rw [bare_len M k hk]; exact hlt)
          rw [bare_at M k hlt] at hE
          have HS := Lib.hid (bare_step M k hlt)
          obtain ⟨x, hx⟩ : ∃ x, ent M k = x := ⟨_, rfl⟩
          rw [hx] at hE HS
          obtain ⟨h1, h2, h3⟩ := id hE
          have HR := Lib.hid hR
          have q42 := fun w0 => plain_any x w0
          unfold enc at q42
          clear hx hE hR
          go_wp2_with (go_at_call 42; (with_reducible refine (q42 _).mono ?_); rintro e w5 ⟨rfl, hb5⟩; have hR5 := HR.out.below hgw ((below_alloc wr _).trans (hb5.mono (by simp))); have hl5 := bare_len M k hk; have e5 := hR5.1 k (by rw [hl5]; exact hlt); obtain ⟨c1, c2, c3⟩ := id e5; have f1 := hR5.2 (k * 3) (by rw [hl5]; omega); have f2 := hR5.2 (k * 3 + 1) (by rw [hl5]; omega); have f3 := hR5.2 (k * 3 + 2) (by rw [hl5]; omega); have HR5 := Lib.hid hR5; have hsz5 := hb5.size; clear hR5 e5 hl5)
          have hbw : RowKit.Below w.heap.size w w5 := Below.next (below_alloc' hb) hb5
          refine ⟨⟨k + 1, by omega, by go_num, hbw.trans (RowW.below3 (RowKit.Below.refl _ _) hg (bare x)), .inr ⟨g, rfl, hg, by simp; simp at hsz5; omega, ?_⟩⟩, by simp [intOf]; omega⟩
          rw [← HS.out]
          exact HR5.out.set k (by rw [bare_len M k hk]; exact hlt) (bare x)
        · obtain rfl : k = M.length := by omega
          have hw := HMF.out
          rw [List.take_length, List.drop_length, List.append_nil, hw] at hr
          have hwl : (withT l es).length = M.length := by rw [← hw, List.length_map]
          go_wp2
          go_ret
          rw [← hwl] at hcF ⊢
          refine ⟨_, rfl, ⟨_, _, rfl, hcF, hcF2, ?_⟩, hb⟩
          rcases hr with ⟨h1, rfl⟩ | ⟨g, rfl, _, _, hR⟩
          · rw [← hw, h1]; exact ⟨_, _, rfl, fun i hi => by simp at hi⟩
          · exact hR.ents
end Go.Proofs.Ytfnmmnbndfdpiaa

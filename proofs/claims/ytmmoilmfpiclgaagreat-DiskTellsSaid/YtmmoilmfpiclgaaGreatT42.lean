/-
  The document's disk: one with files from the first on.
-/
import Derived.Test.YtmmoilmfpiclgaaGreatT34
import Derived.Test.YtmmoilmfpiclgaaGreatT35
import Derived.Test.YtmmoilmfpiclgaaGreatT30
set_option linter.unusedVariables false
set_option linter.unusedSimpArgs false
namespace Go.Proofs.YtmmoilmfpiclgaaGreat
open Go.RowKit Go.Shelf
open Fld (FS Names FAct actsOn foundN foundB findT withT withoutT GoodN Rising mayB nam nameMax RefS WentR)

/-- The same law with what is known of the block. -/
theorem wpList_append_ptr2 {w : World} {ops : Array Oper} {rest : List Oper} {o : Oper} {a : Act} {Q : Exit → Act → World → Prop} (hgd : o.guard = none) (s x : Operand)
    (hop : o.op = Op.call { callee := Callee.builtin Builtin.append, args := #[s, x], argTypes := #[82, 82] }) (ht : o.type = 82) (v : Value) (n : Nat) (fs : List Value) (ad : Addr) (m c : Nat) (news : List Value)
    (hs : a.eval s = v) (hx : a.eval x = .slice (some ad) m c) (hl : news.length = m) (hc : ∀ j u, news[j]? = some u → w.cell? (ad.add j) = some u) (hf : ∀ u ∈ news, u.oneCell' = true) (hv : w.ownsRow 0 85 1 v n fs) (hlen : n + m ≤ 1000000)
    (h : ∀ v' w', w'.ownsRow 0 85 1 v' (n + m) (fs ++ news) → w.grownBy w' v.ownBlock → (v'.ownBlock = v.ownBlock ∨ v'.ownBlock = some w.heap.size) → wpList Tryz.prog ops Q rest (a.put o.dst v') w') : wpList Tryz.prog ops Q (o :: rest) a w := by
  obtain ⟨i0, hi, hz0, hz1, hz2⟩ := info_parts iptr
  obtain ⟨v', w1, h1, h2, h3, _, h5⟩ := run_append_own_at (P := Tryz.prog) w 0 82 82 85 i0 _ 1 8 Tryz.underlying82 hi hz0 hz1 hz2 rfl (by decide) v n fs hv ad m c news (by omega)
    hc hf (by unfold maxLen; omega) (by omega) (Nat.zero_le _)
  refine wpList_plain hgd fun _ hK => ?_
  unfold Oper.wp execOp
  simp only [hop, ht, resolve, invoke, builtin, Sem.run_bind, Sem.run_pure, Result.andThen_ok, List.map_toArray, List.map_cons, List.map_nil, hs, hx, h1]
  exact hK _ _ (h v' w1 h2 h3 h5)

/-- A new one with some files. -/
structure OfR (w wr : World) (r : Nat) (S : DS) (k : Nat) : Prop where
  it : ∃ M, RefD wr r S M ∧ (∀ g, All M g → w.heap.size ≤ g)
  below : Below w.heap.size w wr
  acts : S.fold.A.length ≤ k
  n : S.fold.n ≤ k
  l0 : S.fold.L0 = []
theorem OfR.start {w wr : World} {r q : Nat} (h : FreshD w r (DS.new q) wr) : OfR w wr r (DS.new q) 0 := by
  obtain ⟨M, h1, h2, h3⟩ := h
  exact ⟨⟨M, h1, h2⟩, h3, Nat.le_refl _, Nat.le_refl _, rfl⟩
theorem OfR.went {w wr w' : World} {r : Nat} {S S' : DS} {k : Nat} (h : OfR w wr r S k) {M : Nat → Nat → Prop} (hM : ∀ g, All M g → w.heap.size ≤ g) (hw : WentD wr r M S' w') (ha : S'.fold.A.length ≤ k + 1) (hn : S'.fold.n ≤ k + 1) (hl : S'.fold.L0 = []) : OfR w w' r S' (k + 1) := by
  obtain ⟨M', h1, h2, h3⟩ := hw
  have hb := h.below.size
  exact ⟨⟨M', h1, fun g hg => (h2 g hg).elim (hM g) fun k => Nat.le_trans hb k⟩, h.below.trans (h3.to hb hM), ha, hn, hl⟩
theorem create_acts (S : FS) (s : ByteArray) (h : (S.create s).2.2 = 0) : (S.create s).1.A.length = S.A.length + 1 ∧ (S.create s).1.L0 = S.L0 := by
  unfold FS.create at h ⊢
  split
  · rename_i h1; rw [if_pos h1] at h; cases h
  · rename_i h1
    rw [if_neg h1] at h
    split
    · rename_i h2; rw [if_pos h2] at h; cases h
    · exact ⟨List.length_append, rfl⟩

/-- What stands behind the folder's act. -/
theorem after_create {W w2 : World} {r q : Nat} {T : DS} {M : Nat → Nat → Prop} {fv : Value} {P : Nat → Nat} {F : FS} (h1 : RefDI W r T M q fv P) (k1 : RefD W r T M) (hw : WentR W q (M 0) F w2) : w2.heap[r]? = some (.cells (refC q fv T) 84 (0, 0)) ∧ w2.ownsRow 0 85 1 fv T.fold.n ((List.range T.fold.n).map fun i => fptr (P (i + 1))) ∧ Kept (M 0) W w2 := by
  obtain ⟨J', -, -, k3⟩ := hw
  have hkq : Kept (M 0) W w2 := (kept_in k3).mono fun g e => .inl (e ▸ h1.dir.lt.2)
  exact ⟨(k1.parts.kept hkq (k := 1) (by decide) r (.inl h1.own)).trans h1.blk, owns_same h1.row fun g hg => k1.parts.kept hkq (k := 2) (by decide) g (.inl (h1.rowM g hg)), hkq⟩
theorem survive_over {S : FS} {k : Nat} (h : S.A.length ≤ k) : S.survive (k : Int) = S.sync := by
  unfold FS.survive FS.sync FS.there Fld.upTo
  rw [List.take_of_length_le (by omega)]
set_option maxHeartbeats 4000000 in
set_option maxRecDepth 100000 in
theorem refOf_any {w : World} {lv : Value} {l : FL} (q : Nat) (hq : q ≤ 1000000000000) (hl : FRow w lv l) (hlen : l.length ≤ 20000) (hs : ∀ x ∈ l, x.1.length ≤ nameMax ∧ x.2.length ≤ 100000) :
    Calls Tryz.prog 8 #[lv, .int .i64 (q : Int)] w fun e w' => (DS.of q l = none ∧ e = .returned (.pointer none) ∧ Below w.heap.size w w') ∨
      ∃ S r, DS.of q l = some S ∧ e = .returned (.pointer (some ⟨r, 0, none⟩)) ∧ FreshD w r S w' := by
  have HR := Lib.hid (fun W (B : Below w.heap.size w W) => hl.below B)
  have QN := Lib.hid (refNewD_any w q hq)
  obtain ⟨ad, c, rfl, hx⟩ := hl
  have HX : Hid (∀ W, Below w.heap.size w W → ∀ i, i < l.length → ∃ b o, ad = some ⟨b, o, none⟩ ∧ W.cell? ⟨b, o + i * 2, none⟩ = some (.string (Fld.strO (flAt l i).1)) ∧ W.cell? ⟨b, o + i * 2 + 1, none⟩ = some (.string (Fld.strO (flAt l i).2))) := Lib.hid fun W B i hi => by
    obtain ⟨ad', c', hv, hc⟩ := HR.out W B
    cases hv
    exact hc i hi
  have HS := Lib.hid hs
  clear hx HR hs
  go_enter Tryz.func8, Tryz.ntmps8
  go_wp2_with (go_at_call 10; go_must (with_reducible refine QN.out.mono ?_); rintro e w1 ⟨r, rfl, hf⟩; have H1 := Lib.hid (OfR.start hf); clear hf)
  go_loopw [6, 7, 8] (fun s6 _ _ wr => ∃ (k : Nat) (S : DS), k ≤ l.length ∧ s6 = .int .i64 k ∧ OfR w wr r S k ∧ S.room = q ∧ (DS.new q).ofs l = S.ofs (l.drop k)) (fun s6 _ _ _ => l.length - (intOf s6).toNat)
  case atStart => exact ⟨0, _, Nat.zero_le _, rfl, H1.out, rfl, rfl⟩
  case round =>
    obtain ⟨k, S, hk, rfl, hor, hroom, hofs⟩ := hrel
    have HO := Lib.hid hor
    have HOFS := Lib.hid hofs
    clear hor hofs H1 QN
    by_cases hkn : k < l.length
    · have e1 : decide ((k : Int) < (l.length : Int)) = true := decide_eq_true (by omega)
      have e1' : decide (k < l.length) = true := decide_eq_true hkn
      obtain ⟨b0, o0, rfl, x1, x2⟩ := HX.out wr HO.out.below k hkn
      have hdrop : l.drop k = flAt l k :: l.drop (k + 1) := by
        rw [List.drop_eq_getElem_cons hkn]
        simp [flAt, List.getD, hkn]
      have hmem : flAt l k ∈ l := by
        have : flAt l k = l[k] := by simp [flAt, List.getD, hkn]
        rw [this]; exact List.getElem_mem _
      obtain ⟨hs1, hs2⟩ := HS.out _ hmem
      obtain ⟨x, hx⟩ : ∃ x, flAt l k = x := ⟨_, rfl⟩
      rw [hx] at x1 x2 hdrop hs1 hs2
      have HOFS2 := Lib.hid (HOFS.out.trans (by rw [hdrop] : S.ofs (l.drop k) = S.ofs (x :: l.drop (k + 1))))
      obtain ⟨M1, k1, k2⟩ := HO.out.it
      obtain ⟨q', fv, P, hi⟩ := k1.it
      have hwt : S.fold.weight ≤ 90000 := by
        have h1 := HO.out.acts
        have h2 := HO.out.n
        have h3 := HO.out.l0
        unfold FS.weight
        rw [h3]
        simp
        omega
      have c0 := hi.cell.1
      have hsz : (Fld.strO x.1).size ≤ nameMax := by rw [Fld.strO_size]; exact hs1
      have hc0 := create_n0 S.fold (Fld.strO x.1)
      have hca := create_acts S.fold (Fld.strO x.1)
      have hcg := Fld.good_create k1.good (Fld.strO x.1)
      have QC := Lib.hid (fun (W : World) (hW : Below wr.heap.size wr W) => (Fld.refS_create (hi.dir.below hW) (Fld.strO x.1) hsz k1.good hwt).mono fun e w' ⟨h1, h2⟩ => (⟨h1, hW, h2⟩ : _ ∧ Below wr.heap.size wr W ∧ _))
      obtain ⟨er, her⟩ : ∃ er, (S.fold.create (Fld.strO x.1)).2.2 = er := ⟨_, rfl⟩
      have HOFS3 : Hid ((DS.new q).ofs l = if er = 0 then (S.laid (Fld.strO x.1) x.2).ofs (l.drop (k + 1)) else none) := Lib.hid (by rw [← her]; exact HOFS2.out)
      rw [her] at hc0 hca QC
      clear HOFS2 HOFS
      have K1 := Lib.hid k1
      have K2 := Lib.hid k2
      have HI := Lib.hid hi
      clear hi k1 k2 hdrop hmem hs1
      have HLT : Hid (∀ W, Below wr.heap.size wr W → W.cell? ⟨r, 0, none⟩ = some (.pointer (some ⟨q', 0, none⟩)) ∧ W.cell? ⟨b0, o0 + k * 2, none⟩ = some (.string (Fld.strO x.1))) := Lib.hid fun W hW => ⟨(hW.cell (p := ⟨r, 0, none⟩) (block_lt_of_cell c0)).trans c0, (hW.cell (p := ⟨b0, o0 + k * 2, none⟩) (block_lt_of_cell x1)).trans x1⟩
      by_cases h0 : er = 0
      · subst h0
        obtain ⟨c1, c2⟩ := hc0 rfl
        obtain ⟨a1, a2⟩ := hca rfl
        have HC1 := Lib.hid c1
        rw [c2] at QC
        go_upto_region 7 with fail
        go_region_with (go_at_call 42; (with_reducible refine (QC.out _ (by repeat (first | with_reducible exact Below.refl _ _ | (with_reducible apply drewN)))).mono ?_); rintro e w2 ⟨rfl, hb, hq2⟩; have HB2 := Lib.hid hb; have H2 := Lib.hid hq2; clear hb hq2)
        all_goals
          have hbw := HO.out.below.trans (HB2.out.mono HO.out.below.size)
          obtain ⟨r2, row2, hk2⟩ := after_create (HI.out.below K1.out.parts HB2.out) (K1.out.below HB2.out) H2.out
          have hbw2 := hbw.trans (hk2.to hbw.size fun g hg => K2.out g ⟨0, hg⟩)
          obtain ⟨b0', o0', e0, y1, y2⟩ := HX.out w2 hbw2 k hkn
          cases e0
          rw [hx] at y1 y2
          have HY := Lib.hid (fun (W : World) (hW : Below w2.heap.size w2 W) => (hW.cell (p := ⟨b0, o0 + k * 2 + 1, none⟩) (block_lt_of_cell y2)).trans y2)
          have rc1 : w2.cell? ⟨r, 1, none⟩ = some fv := by rw [cell_of_row w2 r 1 _ _ _ r2]; rfl
          have HRC := Lib.hid (fun (W : World) (hW : Below w2.heap.size w2 W) => (hW.cell (p := ⟨r, 1, none⟩) (block_lt_of_cell rc1)).trans rc1)
          obtain ⟨fa, fc, rfl⟩ := row_form row2
          have R2 := Lib.hid r2
          have ROW2 := Lib.hid row2
          have HK2 := Lib.hid hk2
          clear y1 r2 row2 hk2 hbw hbw2
          obtain ⟨i0, hii, hz0, hz1, hz2⟩ := info_parts iptr
          have hb3 : Below w2.heap.size w2 ((w2.alloc (.cells #[.string (Fld.strO x.2), .slice none 0 0] 88)).alloc (.cells #[.pointer (some ⟨w2.heap.size, 0, none⟩)] 85)).drew := drewN (below_alloc' (below_alloc' (Below.refl _ w2)))
          have hn9 := HO.out.n
          obtain ⟨v4, w4, hrun, o4, g4, -, h5⟩ := run_append_own_at (P := Tryz.prog) ((w2.alloc (.cells #[.string (Fld.strO x.2), .slice none 0 0] 88)).alloc (.cells #[.pointer (some ⟨w2.heap.size, 0, none⟩)] 85)).drew 0 82 82 85 i0 _ 1 8 Tryz.underlying82 hii hz0 hz1 hz2 rfl (by decide) (.slice fa S.fold.n fc) S.fold.n _ (owns_same ROW2.out fun g hg => hb3.block g (ROW2.out.lt g hg).2) ⟨w2.heap.size + 1, 0, none⟩ 1 1 [fptr w2.heap.size] rfl (duo_cells w2 _ _) (by intro u hu; simp at hu; subst hu; rfl) (by unfold maxLen; omega) (by omega) (Nat.zero_le _)
          obtain ⟨X, hX⟩ : ∃ X, (Builtin.append_ #[82, 82] 82 #[.slice fa S.fold.n fc, .slice (some ⟨w2.heap.size + 1, 0, none⟩) 1 1]).run Tryz.prog ((w2.alloc (.cells #[.string (Fld.strO x.2), .slice none 0 0] 88)).alloc (.cells #[.pointer (some ⟨w2.heap.size, 0, none⟩)] 85)).drew = X := ⟨_, rfl⟩
          have hXr := hX.symm.trans hrun
          simp [go_sem] at hX
          rw [hXr] at hX
          have hz4 : w4.heap[r]? = some (.cells (refC q' (.slice fa S.fold.n fc) S) 84 (0, 0)) := by
            rw [← R2.out, ← hb3.block r (Array.getElem?_eq_some_iff.1 R2.out).1]
            exact g4.block r (Nat.lt_of_lt_of_le (Array.getElem?_eq_some_iff.1 R2.out).1 hb3.size) fun e => K1.out.parts.apart 1 2 r (by decide) HI.out.own (HI.out.rowM r e.symm)
          have f4 := free_of hz4 1
          have c4 : w4.cell? ⟨r, 1, none⟩ = some (.slice fa S.fold.n fc) := by rw [cell_of_row w4 r 1 _ _ _ hz4]; rfl
          have r4 : r < w4.heap.size := (Array.getElem?_eq_some_iff.1 hz4).1
          have O4 := Lib.hid o4
          have G4 := Lib.hid g4
          have H5 := Lib.hid h5
          have B3 := Lib.hid hb3
          obtain ⟨a4, c4', rfl⟩ := row_form o4
          have y2' := HY.out _ hb3
          have rlt2 : r < w2.heap.size := block_lt_of_cell rc1
          have blt2 : b0 < w2.heap.size := block_lt_of_cell y2
          have rc3 := HRC.out _ (below_alloc' (o := .cells #[.string (Fld.strO x.2), .slice none 0 0] 88) (Below.refl _ w2))
          have rc4 := HRC.out _ (below_alloc' (o := .cells #[.pointer (some ⟨w2.heap.size, 0, none⟩)] 85) (below_alloc' (o := .cells #[.string (Fld.strO x.2), .slice none 0 0] 88) (Below.refl _ w2)))
          clear o4 g4 h5 hXr hz4 hb3 hii hz0 hz1 hz2
          go_upto_region 10 with fail
          go_region_with (first | fail)
          all_goals
            have hb3' := B3.out
            have hk2' : Kept (M1 2) w2 w4 := (Kept.below hb3').trans (Kept.grown (M := M1 2) G4.out fun g hg => HI.out.rowM g hg) fun g hg => .inl hg
            have hfile : w4.heap[w2.heap.size]? = some (.cells #[.string (strO x.2), .slice none 0 0] 88 (0, 0)) := by
              refine (G4.out.block w2.heap.size (by show w2.heap.size < _; simp; omega) fun e => ?_).trans (duo_file w2 _ _)
              have := (ROW2.out.lt _ e.symm).2
              omega
            have hov : ∀ g, (Value.slice a4 (S.fold.n + 1) c4').ownBlock = some g → M1 2 g ∨ w2.heap.size ≤ g := fun g hg => by
              rcases H5.out with e | e
              · exact .inl (HI.out.rowM g (e.symm.trans hg))
              · have h1 := e.symm.trans hg
                have h2 := Option.some.inj h1
                exact .inr (by rw [← h2]; exact hb3'.size)
            have hwent := RefD.grown (D := x.2) hs2 (HI.out.below K1.out.parts HB2.out) (K1.out.below HB2.out) H2.out HC1.out hcg hk2' (Nat.le_refl _) hfile hov O4.out
            have hw1 := WentD.after (M1 := M1) (fun g hg => .inl hg) (Kept.below HB2.out) hwent
            have e9 : S.laid (Fld.strO x.1) x.2 = { S with fold := (S.fold.create (Fld.strO x.1)).1, file := upd S.file (S.fold.create (Fld.strO x.1)).1.n ⟨x.2, []⟩ } := by
              unfold DS.laid
              rw [c2, HC1.out]
            have hfin := OfR.went HO.out K2.out hw1 (by show (S.fold.create _).1.A.length ≤ _; rw [a1]; have := HO.out.acts; omega) (by show (S.fold.create _).1.n ≤ _; rw [HC1.out]; omega) (by show (S.fold.create _).1.L0 = _; rw [a2]; exact HO.out.l0)
            rw [← e9] at hfin
            have HFN := Lib.hid hfin
            clear hfin hw1 hwent e9 hov hfile hk2' hb3' hX
            go_wp2
            exact ⟨⟨k + 1, S.laid (Fld.strO x.1) x.2, by omega, by go_num, HFN.out, hroom, by rw [HOFS3.out]; simp⟩, by simp [intOf]; omega⟩
      · have e3 : ((er : Int) == 0) = false := by simpa using h0
        go_upto_region 7 with fail
        go_region_with (go_at_call 42; (with_reducible refine (QC.out _ (by repeat (first | with_reducible exact Below.refl _ _ | (with_reducible apply drewN)))).mono ?_); rintro e w2 ⟨rfl, hb, hq2⟩; have HB2 := Lib.hid hb; have H2 := Lib.hid hq2; clear hb hq2)
        all_goals
          go_wp2
          go_ret
          refine .inl ⟨?_, rfl, ?_⟩
          · unfold DS.of
            rw [HOFS3.out, if_neg h0]
            rfl
          · have hbw := HO.out.below.trans (HB2.out.mono HO.out.below.size)
            have hk := (after_create (HI.out.below K1.out.parts HB2.out) (K1.out.below HB2.out) H2.out).2.2
            exact hbw.trans (hk.to hbw.size fun g hg => K2.out g ⟨0, hg⟩)
    · obtain rfl : k = l.length := by omega
      have e1 : decide ((l.length : Int) < (l.length : Int)) = false := by simp
      obtain ⟨M1, k1, k2⟩ := HO.out.it
      obtain ⟨q', fv, P, hi⟩ := k1.it
      have hwt : S.fold.weight ≤ 90000 := by
        have h1 := HO.out.acts
        have h2 := HO.out.n
        have h3 := HO.out.l0
        unfold FS.weight
        rw [h3]
        simp
        omega
      have c0 := hi.cell.1
      have hsv : S.fold.survive ((l.length : Nat) : Int) = S.fold.sync := survive_over HO.out.acts
      have QV := Fld.refS_survive hi.dir ((l.length : Nat) : Int) (by omega) (by omega) hwt
      rw [hsv] at QV
      have QV := Lib.hid QV
      have K1 := Lib.hid k1
      have K2 := Lib.hid k2
      have HI := Lib.hid hi
      clear hi k1 k2 hwt hsv
      go_wp2_with (go_at_call 43; go_must (with_reducible refine QV.out.mono ?_); rintro e w2 ⟨rfl, hq2⟩; have H2 := Lib.hid hq2; clear hq2)
      go_ret
      refine .inr ⟨{ S with fold := S.fold.sync }, r, ?_, rfl, ?_⟩
      · unfold DS.of
        rw [HOFS.out, List.drop_length]
        rfl
      · obtain ⟨M', h1, h2, h3⟩ := RefD.folder HI.out K1.out H2.out rfl (Fld.good_sync K1.out.good)
        have hbs := HO.out.below.size
        exact ⟨M', h1, fun g hg => (h2 g hg).elim (K2.out g) fun k => Nat.le_trans hbs k, HO.out.below.trans (h3.to hbs K2.out)⟩
end Go.Proofs.YtmmoilmfpiclgaaGreat

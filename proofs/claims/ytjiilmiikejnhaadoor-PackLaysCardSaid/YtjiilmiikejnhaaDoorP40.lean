/-
  The document's Build of the document's List: some transducer of at most 10000 states. The document's Of, and PackLays.
-/
import Derived.Test.YtjiilmiikejnhaaDoorP36
import Derived.Test.YtjiilmiikejnhaaDoorP35
import Derived.Test.YtjiilmiikejnhaaDoorP39
set_option linter.unusedVariables false
set_option linter.unusedSimpArgs false
namespace Go.Proofs.YtjiilmiikejnhaaDoor
open Go.RowKit Go.Shelf Said

def toEn (x : Ev.Ent) : En := ⟨x.word, x.weight, x.gone⟩
theorem ensK_of {w : World} {v : Value} {E : List Ev.Ent} (h : Ev.RowE w v E) (hw : ∀ x ∈ E, x.weight < 4294967296) : EnsK w v (E.map toEn) := by
  obtain ⟨ad, c, rfl, _, _, ⟨ad', c', e, hc⟩, ht⟩ := h
  injection e with e1 e2 e3
  subst e1 e3
  refine ⟨⟨ad, c, by rw [List.length_map], fun x hx => ?_, fun i hi => ?_⟩, fun g o n c e => ?_⟩
  · obtain ⟨y, hy, rfl⟩ := List.mem_map.1 hx
    exact hw y hy
  · rw [List.length_map] at hi
    obtain ⟨b, o, e, h1, h2, h3⟩ := hc i hi
    have he : enAt (E.map toEn) i = toEn (Ev.ent E i) := by
      rw [enAt_lt (by rw [List.length_map]; exact hi), List.getElem_map, Ev.ent_lt hi]
    exact ⟨b, o, e, by rw [he]; exact h1, by rw [he]; exact h2, by rw [he]; exact h3⟩
  · injection e with e
    exact ht g o e
theorem fstB_below {w w' : World} {p n : Nat} {v : Value} (h : FstB w p v n) (hb : Below w.heap.size w w') : FstB w' p v n := (hb.block p h.lt).trans h
theorem check_zero {l : List Ev.Ent} (h : (Ev.checkE l).2 = 0) : ∀ j, j < l.length → Ev.badE l j = 0 := by
  intro j hj
  unfold Ev.checkE at h
  split at h
  · next k hk =>
    have := List.find?_some hk
    simp only at h
    rw [h] at this
    cases this
  · next hk =>
    have := List.find?_eq_none.1 hk j (List.mem_range.2 hj)
    simpa using this
theorem good_of {E : List Ev.Ent} (hr : Ev.risingE E = true) : Good 0 (E.map toEn) := by
  refine ⟨fun _ _ => Nat.zero_le _, ?_, fun _ _ _ _ => rfl⟩
  induction E with
  | nil => exact .nil
  | cons x E ih =>
    obtain ⟨h1, h2⟩ := Ev.risingE_cons.1 hr
    refine .cons (fun y hy => ?_) (ih h2)
    obtain ⟨z, hz, rfl⟩ := List.mem_map.1 hy
    exact h1 z hz

/-- Some transducer of few states, whatever the error. -/
def BuildMid (w : World) (e : Ending) (w' : World) : Prop := ∃ ad c l io er, e = .returned (.tuple #[.agg #[.slice ad l.length c, .int .u64 (io : Nat)], .int .i64 er]) ∧ Sts w' (.slice ad l.length c) l ∧ Mid l ∧ io < 18446744073709551616 ∧ Below w.heap.size w w'

set_option maxHeartbeats 4000000 in
set_option maxRecDepth 100000 in
theorem build_mid {w : World} {v : Value} {E : List Ev.Ent} (hrow : Ev.RowE w v E) (hlen : E.length ≤ 30) (hrise : Ev.risingE E = true) (hs : Ev.ShortE E) (hw : ∀ x ∈ E, x.weight < 4294967296) :
    Calls Tryd.prog 24 #[v] w (BuildMid w) := by
  have QC := Lib.hid (fun W (hb : Below w.heap.size w W) => Ev.entRefCheck_any E v W (hrow.below hb).ents hs (by omega))
  have hek := ensK_of hrow hw
  obtain ⟨ck, hck⟩ : ∃ ck, Ev.checkE E = ck := ⟨_, rfl⟩
  rw [hck] at QC
  obtain ⟨ci, cr⟩ := ck
  obtain ⟨ad, cp, rfl, hc1, hc2, -⟩ := hrow
  obtain ⟨n0, hn0⟩ : ∃ n0, E.length = n0 := ⟨_, rfl⟩
  rw [hn0] at hek hlen QC ⊢
  obtain ⟨p, hp⟩ : ∃ p, p = w.heap.size := ⟨_, rfl⟩
  obtain ⟨W1, hW1⟩ : ∃ W1, W1 = w.alloc (.cells #[.slice none 0 0, .int .u64 0] 25) := ⟨_, rfl⟩
  have HF : Hid (FstB W1 p (.slice none 0 0) 0 ∧ Below w.heap.size w W1) := Lib.hid (by rw [hp, hW1]; exact ⟨heap_alloc_new w _, below_alloc w _⟩)
  have hpw := Lib.hid hp
  by_cases hr : cr = 0
  · subst hr
    have HZ := Lib.hid (And.intro (check_zero (l := E) (by rw [hck])) (And.intro hn0 (And.intro hrise hek)))
    clear hck hek hrise hs hw hc1 hc2 hn0
    by_cases h0 : n0 = 0
    · subst h0
      go_enter Tryd.func24, Tryd.ntmps24
      go_upto_region 1 with fail
      rw [← hW1, ← hp]
      clear hW1 hp
      go_wp2_with (go_at_call 47; go_loud (refine (QC.out _ HF.out.2).mono ?_); rintro e w1 ⟨rfl, hb1⟩; have f1 := fstB_below HF.out.1 hb1; have y0 := f1.at0; have y1 := f1.at1; have z0 := fun ob => (fstB_below f1 (below_alloc w1 ob)).at0; have z1 := fun ob => (fstB_below f1 (below_alloc w1 ob)).at1; have z2 := fun ob => (fstB_below f1 (below_alloc w1 ob)).free 0; have z3 := fun ob => (fstB_below f1 (below_alloc w1 ob)).free 1; have y2 := f1.free 0; have y3 := f1.free 1; have HB1 := Lib.hid (And.intro f1 (HF.out.2.trans (hb1.mono HF.out.2.size))); clear f1 hb1)
      have hw0 := HB1.out.2
      have hs0 : Sts (w1.alloc (.cells #[.slice none 0 0, .bool false, .int .u64 0] 64)) (.slice (some ⟨w1.heap.size, 0, none⟩) 1 1) [⟨[], false, 0⟩] := sts_lit [(_, ⟨[], false, 0⟩)] (by simp) rfl (List.forall_mem_cons.2 ⟨arcs_nil _, List.forall_mem_nil _⟩)
      obtain ⟨W, hW⟩ : ∃ W, W = ((w1.alloc (.cells #[.slice none 0 0, .bool false, .int .u64 0] 64)).setCell ⟨p, 0, none⟩ (.slice (some ⟨w1.heap.size, 0, none⟩) 1 1)).setCell ⟨p, 1, none⟩ (.int .u64 0) := ⟨_, rfl⟩
      obtain ⟨o1, o2, o3⟩ := fst_out (init := 0) (fstB_below HB1.out.1 (below_alloc w1 _)) hs0 rfl hW
      rw [← hW]
      clear hW hs0
      have q1 := o1.at0
      have q2 := o1.at1
      have HE := Lib.hid (And.intro o2 o3)
      clear o1 o2 o3
      simp [bodyPost, results, Tryd.results24, go_sem, q1, q2]
      exact ⟨_, 1, [⟨[], false, 0⟩], 0, _, rfl, HE.out.1, ⟨by simp, by simp, by simp [DSt.ok]⟩, by decide, hw0.trans (((below_alloc w1 _).mono hw0.size).trans (HE.out.2.to (by have := hw0.size; simp; omega) fun g e => by rw [e, hpw.out]; exact Nat.le_refl _))⟩
    · have e1 : ((n0 : Int) == 0) = false := by simp; omega
      have e2 : (n0 == 0) = false := by simp; omega
      go_enter Tryd.func24, Tryd.ntmps24
      go_upto_region 1 with fail
      rw [← hW1, ← hp]
      clear hW1 hp
      go_upto_region 7 with (go_at_call 47; go_loud (refine (QC.out _ HF.out.2).mono ?_); rintro e w1 ⟨rfl, hb1⟩; have f1 := fstB_below HF.out.1 hb1; have HB1 := Lib.hid (And.intro f1 (HF.out.2.trans (hb1.mono HF.out.2.size))); clear f1 hb1)
      obtain ⟨m, hm⟩ : ∃ m, m = w1.heap.size := ⟨_, rfl⟩
      obtain ⟨W2, hW2⟩ : ∃ W2, W2 = w1.alloc (.cells #[.slice none 0 0] 100) := ⟨_, rfl⟩
      have H2 : Hid (MkrB W2 m (.slice none 0 0) ∧ FstB W2 p (.slice none 0 0) 0 ∧ Below w.heap.size w W2 ∧ p ≠ m ∧ w.heap.size ≤ m) := Lib.hid (by
        have hb2 := below_alloc w1 (.cells #[.slice none 0 0] 100)
        rw [hW2, hm]
        refine ⟨heap_alloc_new w1 _, fstB_below HB1.out.1 hb2, HB1.out.2.trans (hb2.mono HB1.out.2.size), ?_, HB1.out.2.size⟩
        have := HB1.out.1.lt
        omega)
      rw [← hW2, ← hm]
      clear hW2 hm
      obtain ⟨EL, hEL⟩ : ∃ EL, EL = E.map toEn := ⟨_, rfl⟩
      have hELl : EL.length = n0 := by rw [hEL, List.length_map]; exact HZ.out.2.1
      have hEK : EnsK w (.slice ad n0 cp) EL := by rw [hEL]; exact HZ.out.2.2.2
      have hg : Good 0 EL := by rw [hEL]; exact good_of HZ.out.2.2.1
      have h255 : ∀ x ∈ EL, (wd x).length ≤ 255 := fun x hx => by
        rw [hEL] at hx
        obtain ⟨y, hy, rfl⟩ := List.mem_map.1 hx
        obtain ⟨j, hj, rfl⟩ := List.getElem_of_mem hy
        have hz := HZ.out.1 j hj
        unfold Ev.badE at hz
        rw [Ev.ent_lt hj] at hz
        cases hwt : Ev.wordT E[j].word with
        | false => rw [hwt, if_pos rfl] at hz; cases hz
        | true =>
          have := (Ev.wordT_true hwt).2
          unfold wd toEn
          rw [ba_length]
          exact this
      have hne0 : EL ≠ [] := fun e => h0 (by rw [← hELl, e]; rfl)
      have htot : total 0 EL ≤ 30 * 255 := Nat.le_trans (total_le h255) (Nat.mul_le_mul_right _ (by omega))
      have QL : Hid (∀ W, Below w.heap.size w W → Calls Tryd.prog 48 #[.slice ad n0 cp] W fun e w' => (∃ u : Nat, e = .returned (.int .u64 (u : Int)) ∧ u ≤ 4294967296 ∧ ∀ i, i < EL.length → u ≤ (enAt EL i).value) ∧ Below W.heap.size W w') := Lib.hid fun W hb => docLeast_any (hEK.below hb).1 hne0 (by omega)
      have QS : Hid (∀ W (u : Nat), Below w.heap.size w W → MkrB W m (.slice none 0 0) → u ≤ 4294967296 → Calls Tryd.prog 49 #[.pointer (some ⟨m, 0, none⟩), .slice ad n0 cp, .int .i64 0, .int .u64 (u : Int)] W (Stated W m w.heap.size (.slice none 0 0) [] (1 + total 0 EL))) := Lib.hid fun W u hb hm hu => by
        have h := refState_any 255 (ls := u) hg (fun x hx => Nat.le_trans (h255 x hx) (by omega)) hne0 (by omega) hm (⟨World.ownsRow_nil W w.heap.size 64 3, List.forall_mem_nil _⟩ : RowsI W w.heap.size (.slice none 0 0) []) hb.size (hEK.below hb) (by simp; omega) (List.forall_mem_nil _) (by omega) (by omega)
        rw [show ((0 : Nat) : Int) = 0 from rfl] at h
        exact h
      have HT := Lib.hid htot
      clear hEL hELl hEK hg h255 hne0 htot
      go_wp2_with (first
        | (go_at_call 48; (with_reducible refine (QL.out _ H2.out.2.2.1).mono ?_); rintro e w3 ⟨⟨u, rfl, hu, -⟩, hb3⟩; have H3 := Lib.hid (And.intro hu (And.intro (H2.out.1.below hb3) (And.intro (fstB_below H2.out.2.1 hb3) (H2.out.2.2.1.trans (hb3.mono H2.out.2.2.1.size))))); clear hu hb3)
        | (go_at_call 49; (with_reducible refine (QS.out _ _ H3.out.2.2.2 H3.out.2.1 H3.out.1).mono ?_); rintro e w5 ⟨si, sv, sxs, rfl, hsi, hle, hnew, hmk, hrw, hkp, -⟩; obtain ⟨sa, sc, hsv⟩ := hrw.1.form; subst hsv; have f5 := H3.out.2.2.1.kp hkp (fun e => e.elim (fun e => by cases e) H2.out.2.2.2.1); have y0 := f5.at0; have y1 := f5.at1; have y2 := f5.free 0; have y3 := f5.free 1; have y4 := hmk.at0; have H5 := Lib.hid (And.intro hle (And.intro hnew (And.intro hrw (And.intro hkp f5)))); clear hle hnew hrw hkp f5 hmk hsi))
      obtain ⟨W, hW⟩ : ∃ W, W = (w5.setCell ⟨p, 0, none⟩ (.slice sa sxs.length sc)).setCell ⟨p, 1, none⟩ (.int .u64 (u : Int)) := ⟨_, rfl⟩
      obtain ⟨o1, o2, o3⟩ := fst_out (init := u) H5.out.2.2.2.2 H5.out.2.2.1.sts rfl hW
      rw [← hW]
      clear hW
      have q1 := o1.at0
      have q2 := o1.at1
      have HE := Lib.hid (And.intro o2 o3)
      clear o1 o2 o3
      simp [bodyPost, results, Tryd.results24, go_sem, q1, q2]
      have hfit : ∀ x ∈ sxs, Fit x.2 := fun x hx => by
        rcases H5.out.2.1 x hx with h | h
        · cases h
        · exact h.1
      have hu := H3.out.1
      refine ⟨sa, sc, sxs.map (·.2), u, _, by rw [List.length_map], by rw [List.length_map]; exact HE.out.1, ⟨by rw [List.length_map]; have h1 := H5.out.1; rw [List.length_nil] at h1; have := HT.out; omega, fun s hs => ?_, fun s hs => ?_⟩, by omega, ?_⟩
      · obtain ⟨x, hx, rfl⟩ := List.mem_map.1 hs
        have := (hfit x hx).1
        omega
      · obtain ⟨x, hx, rfl⟩ := List.mem_map.1 hs
        exact (hfit x hx).2
      · have h5 : Below w.heap.size w w5 := H3.out.2.2.2.trans (H5.out.2.2.2.1.to H3.out.2.2.2.size fun g e => e.elim (fun e => by cases e) fun e => by rw [e]; exact H2.out.2.2.2.2)
        exact h5.trans (HE.out.2.to h5.size fun g e => by rw [e, hpw.out]; exact Nat.le_refl _)
  · have hne : ((cr : Int) != 0) = true := by simp; omega
    clear hck hek hrise hs hw hc1 hc2 hn0 hr
    go_enter Tryd.func24, Tryd.ntmps24
    go_upto_region 1 with fail
    rw [← hW1, ← hp]
    clear hW1 hp
    go_wp2_with (go_at_call 47; go_loud (refine (QC.out _ HF.out.2).mono ?_); rintro e w1 ⟨rfl, hb1⟩; have f1 := fstB_below HF.out.1 hb1; have y0 := f1.at0; have y1 := f1.at1; have z0 := fun ob => (fstB_below f1 (below_alloc w1 ob)).at0; have z1 := fun ob => (fstB_below f1 (below_alloc w1 ob)).at1; have z2 := fun ob => (fstB_below f1 (below_alloc w1 ob)).free 0; have z3 := fun ob => (fstB_below f1 (below_alloc w1 ob)).free 1; have y2 := f1.free 0; have y3 := f1.free 1; have HB1 := Lib.hid (And.intro f1 (HF.out.2.trans (hb1.mono HF.out.2.size))); clear f1 hb1)
    obtain ⟨W, hW⟩ : ∃ W, W = (w1.setCell ⟨p, 0, none⟩ (.slice none 0 0)).setCell ⟨p, 1, none⟩ (.int .u64 0) := ⟨_, rfl⟩
    obtain ⟨o1, o2, o3⟩ := fst_out (init := 0) (S := []) HB1.out.1 ⟨none, 0, rfl, fun i hi => by simp at hi⟩ rfl hW
    rw [← hW]
    clear hW
    have q1 := o1.at0
    have q2 := o1.at1
    have HE := Lib.hid (And.intro o2 o3)
    clear o1 o2 o3
    simp [bodyPost, results, Tryd.results24, go_sem, q1, q2]
    exact ⟨none, 0, [], 0, _, rfl, HE.out.1, ⟨by simp, fun _ h => (by cases h), fun _ h => (by cases h)⟩, by decide, HB1.out.2.trans (HE.out.2.to HB1.out.2.size fun g e => by rw [e, hpw.out]; exact Nat.le_refl _)⟩
end Go.Proofs.YtjiilmiikejnhaaDoor
namespace Go.Proofs.YtjiilmiikejnhaaDoor
open Go.RowKit Go.Shelf Said

theorem mem_withT : ∀ {es l : List Ev.Ent} {x : Ev.Ent}, x ∈ Ev.withT l es → x ∈ l ∨ ∃ e ∈ es, x = Ev.bare e
  | [], l, x, h => .inl h
  | e :: es, l, x, h => by
    have h' : x ∈ Ev.withT (Ev.putE l (Ev.bare e)) es := h
    rcases mem_withT h' with h1 | ⟨y, hy, rfl⟩
    · rcases Ev.mem_putE h1 with h2 | h2
      · exact .inr ⟨e, List.mem_cons_self, h2⟩
      · exact .inl h2
    · exact .inr ⟨y, List.mem_cons_of_mem _ hy, rfl⟩
theorem draftWord_size (d : Ev.Draft) : (Ev.draftWord d).size ≤ 9 := by
  unfold Ev.draftWord
  split
  · decide
  · show (Ev.lets (d.letters.take 9)).toArray.size ≤ 9
    rw [List.size_toArray]
    unfold Ev.lets
    rw [List.length_map]
    exact List.length_take_le _ _
theorem bare_word (e : Ev.Ent) : (Ev.bare e).word = e.word := by unfold Ev.bare; split <;> rfl
theorem bare_weight (e : Ev.Ent) : (Ev.bare e).weight ≤ e.weight := by
  unfold Ev.bare
  split
  · exact Nat.zero_le _
  · exact Nat.le_refl _
theorem list_mem {l : List Ev.Draft} (hw : ∀ d ∈ l, d.weight < 4294967296) {x : Ev.Ent} (hx : x ∈ Ev.withT [] (Ev.entriesT l 30)) : x.weight < 4294967296 ∧ x.word.size ≤ 9 := by
  rcases mem_withT hx with h | ⟨e, he, rfl⟩
  · cases h
  · unfold Ev.entriesT at he
    obtain ⟨d, hd, rfl⟩ := List.mem_map.1 he
    have hd' := hw d (List.mem_of_mem_take hd)
    refine ⟨?_, ?_⟩
    · have h1 := bare_weight (Ev.draftE d)
      have h2 : (Ev.draftE d).weight ≤ d.weight := by unfold Ev.draftE; exact bare_weight _
      omega
    · rw [bare_word]
      unfold Ev.draftE
      rw [bare_word]
      exact draftWord_size d

def OfMid (w : World) (e : Ending) (w' : World) : Prop := ∃ ad c l io cnt, e = .returned (.tuple #[.agg #[.slice ad l.length c, .int .u64 (io : Nat)], .int .i64 cnt]) ∧ Sts w' (.slice ad l.length c) l ∧ Mid l ∧ io < 18446744073709551616 ∧ Below w.heap.size w w'

set_option maxHeartbeats 4000000 in
set_option maxRecDepth 100000 in
theorem of_mid {w : World} {vd : Value} {l : List Ev.Draft} (hd : Ev.Drafts w vd l) (hl : l.length ≤ 9223372036854775807) (hw : ∀ d ∈ l, d.weight < 4294967296) :
    Calls Tryd.prog 8 #[vd, .int .i64 30] w (OfMid w) := by
  obtain ⟨p, hp⟩ : ∃ p, p = w.heap.size := ⟨_, rfl⟩
  obtain ⟨W1, hW1⟩ : ∃ W1, W1 = w.alloc (.cells #[.slice none 0 0, .int .u64 0] 25) := ⟨_, rfl⟩
  have HF : Hid (FstB W1 p (.slice none 0 0) 0 ∧ Below w.heap.size w W1) := Lib.hid (by rw [hp, hW1]; exact ⟨heap_alloc_new w _, below_alloc w _⟩)
  have hpw := Lib.hid hp
  have QL : Hid (∀ W, Below w.heap.size w W → Calls Tryd.prog 23 #[vd, .int .i64 30] W fun e w' => ∃ v', e = .returned v' ∧ Ev.RowE w' v' (Ev.withT [] (Ev.entriesT l 30)) ∧ Below W.heap.size W w') := Lib.hid fun W hb => Ev.list_any l vd 30 W (hd.below hb) (by omega) hl
  have hE : (Ev.withT [] (Ev.entriesT l 30)).length ≤ 30 := by
    have h1 := Ev.withT_length [] (Ev.entriesT l 30)
    have h2 := Ev.entriesT_length l 30
    rw [List.length_nil] at h1
    omega
  have hM : ∀ x ∈ Ev.withT [] (Ev.entriesT l 30), x.weight < 4294967296 ∧ x.word.size ≤ 9 := fun x hx => list_mem hw hx
  have hR : Ev.risingE (Ev.withT [] (Ev.entriesT l 30)) = true := Ev.withT_rising rfl _
  obtain ⟨E, hEe⟩ : ∃ E, Ev.withT [] (Ev.entriesT l 30) = E := ⟨_, rfl⟩
  rw [hEe] at QL hE hM hR
  have QB : Hid (∀ W v, Ev.RowE W v E → Calls Tryd.prog 24 #[v] W (BuildMid W)) := Lib.hid fun W v h => build_mid h hE hR (fun x hx => Nat.le_trans (hM x hx).2 (by omega)) (fun x hx => (hM x hx).1)
  clear hM hE hR hEe hd hw hl
  go_enter Tryd.func8, Tryd.ntmps8
  go_upto_region 1 with fail
  rw [← hW1, ← hp]
  clear hW1 hp
  go_wp2_with (first
    | (go_at_call 23; (with_reducible refine (QL.out _ HF.out.2).mono ?_); rintro e w2 ⟨v2, rfl, hrow, hb2⟩; have HR := Lib.hid hrow; have h2 := Lib.hid (And.intro (fstB_below HF.out.1 hb2) (HF.out.2.trans (hb2.mono HF.out.2.size))); obtain ⟨ea, ec, hv2, -⟩ := hrow; subst hv2; clear hb2)
    | (go_at_call 24; (with_reducible refine (QB.out _ _ HR.out).mono ?_); rintro e w3 ⟨ad, c, S, io, er, rfl, hS, hMid, hio, hb3⟩; have f3 := fstB_below h2.out.1 hb3; have h3 := Lib.hid (And.intro f3 (And.intro hS (And.intro hMid (And.intro hio (h2.out.2.trans (hb3.mono h2.out.2.size)))))); clear hS hMid hio hb3; have z0 := fun ob => (fstB_below f3 (below_alloc w3 ob)).at0; have z1 := fun ob => (fstB_below f3 (below_alloc w3 ob)).at1; have z2 := fun ob => (fstB_below f3 (below_alloc w3 ob)).free 0; have z3 := fun ob => (fstB_below f3 (below_alloc w3 ob)).free 1; have y0 := f3.at0; have y1 := f3.at1; have y2 := f3.free 0; have y3 := f3.free 1; have hpl := f3.lt; clear f3))
  obtain ⟨W, hW⟩ : ∃ W, W = (w3.setCell ⟨p, 0, none⟩ (.slice ad S.length c)).setCell ⟨p, 1, none⟩ (.int .u64 (io : Int)) := ⟨_, rfl⟩
  obtain ⟨o1, o2, o3⟩ := fst_out (init := io) h3.out.1 h3.out.2.1 rfl hW
  rw [← hW]
  clear hW
  have hba := below_alloc W (.cells #[.slice ad S.length c, .int .u64 (io : Int)] 25)
  have q1 := (fstB_below o1 hba).at0
  have q2 := (fstB_below o1 hba).at1
  have HE := Lib.hid (And.intro (o2.below hba) (And.intro o3 hba))
  clear o1 o2 o3 hba y0 y1 y2 y3 z0 z1 z2 z3
  simp [bodyPost, results, Tryd.results8, go_sem, q1, q2]
  have h5 := h3.out.2.2.2.2
  have h6 : Below w.heap.size w W := h5.trans (HE.out.2.1.to h5.size fun g e => by rw [e, hpw.out]; exact Nat.le_refl _)
  exact ⟨ad, c, S, io, _, rfl, HE.out.1, h3.out.2.2.1, h3.out.2.2.2.1, h6.trans (HE.out.2.2.mono h6.size)⟩
end Go.Proofs.YtjiilmiikejnhaaDoor

/-
  The first place that keeps a row of entries from being a list: the program's and the document's. The document's list with an entry, and with some entries. The document's list with some entries, one behind the other. Entries that are drawn: what a draft says, and lists of drafts. Lists of drafts, as entries, and as lists.
-/
import Derived.Test.YtjiilmiikejnhaaDoorP38
import Derived.WalkMore
import Derived.BigQuiet
set_option linter.unusedVariables false
set_option linter.unusedSimpArgs false
namespace Go.Proofs.YtjiilmiikejnhaaDoor.Ev
open Go.RowKit Go.Sort

theorem refCheck_any (a : ByteArray) (w : World) (ha : a.size ≤ 9223372036854775807) : Calls Tryd.prog 70 #[.string a] w fun e w' => e = .returned (.int .i64 (if wordT a = true then 0 else 7)) ∧ w = w' := by
  have q25 := fun w0 => refIs_any a w0 ha
  obtain ⟨r, hr⟩ : ∃ r, wordT a = r := ⟨_, rfl⟩
  rw [hr] at q25 ⊢
  clear hr
  cases r
  all_goals
    go_enter Tryd.func70, Tryd.ntmps70
    go_wp2_with (go_at_call 91; go_must (refine (q25 _).mono ?_); rintro e w1 ⟨rfl, rfl⟩)
    go_ret
    exact ⟨rfl, rfl⟩

/-- What is wrong at a place: 7, 15, or nothing. -/
def badE (l : List Ent) (k : Nat) : Nat := if wordT (ent l k).word = false then 7 else if 0 < k ∧ ltE (ent l (k - 1)) (ent l k) = false then 15 else 0
/-- The first such place, and what is wrong there; or -1 and 0. -/
def checkE (l : List Ent) : Int × Nat :=
  match (List.range l.length).find? fun k => badE l k != 0 with
  | some k => ((k : Int), badE l k)
  | none => (-1, 0)

theorem check_first {l : List Ent} {k r : Nat} (h1 : ∀ j, j < k → badE l j = 0) (hk : k < l.length) (hr : badE l k = r) (h0 : r ≠ 0) : checkE l = ((k : Int), r) := by
  unfold checkE
  have : (List.range l.length).find? (fun k => badE l k != 0) = some k := by
    rw [List.find?_range_eq_some]
    refine ⟨by rw [hr]; simpa using h0, by simpa using hk, fun j hj => by rw [h1 j hj]; rfl⟩
  rw [this]
  show ((k : Int), badE l k) = _
  rw [hr]
theorem check_end {l : List Ent} (h1 : ∀ j, j < l.length → badE l j = 0) : checkE l = (-1, 0) := by
  unfold checkE
  have : (List.range l.length).find? (fun k => badE l k != 0) = none := by
    rw [List.find?_eq_none]
    intro j hj
    rw [h1 j (by simpa using hj)]
    simp
  rw [this]

/-- All its words are short enough to be. -/
def ShortE (l : List Ent) : Prop := ∀ x ∈ l, x.word.size ≤ 9223372036854775807
theorem shortE_at {l : List Ent} (h : ShortE l) (i : Nat) : (ent l i).word.size ≤ 9223372036854775807 := by
  rcases Nat.lt_or_ge i l.length with hi | hi
  · exact h _ (ent_mem hi)
  · have : ent l i = default := by simp [ent, List.getD, hi]
    rw [this]; exact Nat.zero_le _

theorem bytesLess_T (a b : ByteArray) : Op.bytesLess a.toList b.toList = lessT a b := by
  rw [bytesLess_less, ByteArray.toList_eq, ByteArray.toList_eq]; rfl

set_option maxHeartbeats 1000000 in
set_option maxRecDepth 100000 in
theorem entRefCheck_any (l : List Ent) (v : Value) (w : World) (hv : Ents w v l) (hs : ShortE l) (hlen : l.length ≤ 1000000) :
    Calls Tryd.prog 47 #[v] w fun e w' => e = .returned (.tuple #[.int .i64 (checkE l).1, .int .i64 ((checkE l).2 : Nat)]) ∧ RowKit.Below w.heap.size w w' := by
  obtain ⟨ad, cp, rfl, hc⟩ := ents_cell hv
  have HC : Hid (∀ i, i < l.length → ∃ b o, ad = some ⟨b, o, none⟩ ∧ EntAt w b (o + i * 3) (ent l i)) := Lib.hid hc
  clear hc hv
  go_enter Tryd.func47, Tryd.ntmps47
  go_wp2
  go_loopw [4] (fun s4 wr => ∃ k : Nat, k ≤ l.length ∧ s4 = .int .i64 k ∧ RowKit.Below w.heap.size w wr ∧ Hid (∀ j, j < k → badE l j = 0)) (fun s4 _ => l.length - (intOf s4).toNat)
  case atStart => exact ⟨0, Nat.zero_le _, rfl, RowKit.Below.refl _ _, Lib.hid fun j hj => by omega⟩
  case round =>
    obtain ⟨k, hk, rfl, hb, HI⟩ := hrel
    by_cases hlt : k < l.length
    · obtain ⟨b, o, rfl, hE⟩ := HC.out k hlt
      obtain ⟨h1, h2, h3⟩ := hE.below hb
      have hbad : badE l k = if wordT (ent l k).word = false then 7 else if 0 < k ∧ ltE (ent l (k - 1)) (ent l k) = false then 15 else 0 := rfl
      have hsz := shortE_at hs k
      obtain ⟨y, hy⟩ : ∃ y, ent l k = y := ⟨_, rfl⟩
      rw [hy] at h1 h2 h3 hbad hsz
      have q33 := fun w0 => refCheck_any y.word w0 hsz
      cases hw : wordT y.word with
      | false =>
        rw [hw] at q33
        rw [hw, if_pos rfl] at hbad
        have HF := Lib.hid (check_first HI.out hlt hbad (by omega))
        clear hy hE hw hbad
        go_wp2_with (go_at_call 70; (with_reducible refine (q33 _).mono ?_); rintro e w1 ⟨rfl, rfl⟩)
        go_ret2
        exact ⟨by rw [HF.out]; rfl, hb⟩
      | true =>
        rw [hw] at q33
        rw [hw, if_neg (by simp)] at hbad
        by_cases hk0 : 0 < k
        · obtain ⟨p, hp⟩ : ∃ p, k - 1 = p := ⟨_, rfl⟩
          have ep : (k : Int) - 1 = (p : Int) := by omega
          have hpl : p < l.length := by omega
          obtain ⟨b', o', he', hE'⟩ := HC.out p hpl
          cases he'
          obtain ⟨h4, h5, h6⟩ := hE'.below hb
          rw [hp] at hbad
          obtain ⟨x, hx⟩ : ∃ x, ent l p = x := ⟨_, rfl⟩
          rw [hx] at h4 h5 h6 hbad
          have hd : decide ((k : Int) > 0) = true := decide_eq_true (by omega)
          have ew : IntKind.i64.wrap (p : Int) = (p : Int) := IntWalk.i64_in _ (by omega)
          have hbl := bytesLess_T x.word y.word
          cases hl : lessT x.word y.word with
          | true =>
            rw [hl] at hbl
            rw [if_neg (by rintro ⟨_, h⟩; rw [show ltE x y = _ from hl] at h; cases h)] at hbad
            have HB := Lib.hid hbad
            clear hy hE hw hbad hE' hx hl hp
            go_wp2_with (go_at_call 70; (with_reducible refine (q33 _).mono ?_); rintro e w1 ⟨rfl, rfl⟩)
            go_quiet (fail)
            have hb2 := below_drewN hb nq
            go_wp2
            exact ⟨⟨k + 1, by omega, by go_num, hb2, Lib.hid fun j hj => by
              rcases Nat.lt_or_ge j k with h | h
              · exact HI.out j h
              · rw [show j = k by omega]; exact HB.out⟩, by simp [intOf]; omega⟩
          | false =>
            rw [hl] at hbl
            rw [if_pos ⟨hk0, hl⟩] at hbad
            have HF := Lib.hid (check_first HI.out hlt hbad (by omega))
            clear hy hE hw hbad hE' hx hl hp
            go_wp2_with (go_at_call 70; (with_reducible refine (q33 _).mono ?_); rintro e w1 ⟨rfl, rfl⟩)
            go_quiet (fail)
            have hb2 := below_drewN hb nq
            go_wp2
            go_ret2
            exact ⟨by rw [HF.out]; rfl, hb2⟩
        · have hd : decide ((k : Int) > 0) = false := decide_eq_false (by omega)
          rw [if_neg (fun h => hk0 h.1)] at hbad
          have HB := Lib.hid hbad
          clear hy hE hw hbad
          go_wp2_with (go_at_call 70; (with_reducible refine (q33 _).mono ?_); rintro e w1 ⟨rfl, rfl⟩)
          go_quiet (fail)
          have hb2 := below_drewN hb nq
          go_wp2
          exact ⟨⟨k + 1, by omega, by go_num, hb2, Lib.hid fun j hj => by
            rcases Nat.lt_or_ge j k with h | h
            · exact HI.out j h
            · rw [show j = k by omega]; exact HB.out⟩, by simp [intOf]; omega⟩
    · have HF := Lib.hid (check_end (l := l) fun j hj => HI.out j (by omega))
      go_wp2
      go_ret2
      exact ⟨by rw [HF.out]; rfl, hb⟩
end Go.Proofs.YtjiilmiikejnhaaDoor.Ev
namespace Go.Proofs.YtjiilmiikejnhaaDoor.Ev
open Go.RowKit Go.Sort

theorem swoE.trans (a b c : Ent) (h1 : ltE a b = true) (h2 : ltE b c = true) : ltE a c = true := Plain.less_trans _ _ _ h1 h2
theorem swoE.asymmA {a b : Ent} (h : ltE a b = true) : ltE b a = false := by
  cases hh : ltE b a with
  | false => rfl
  | true =>
    have h3 := swoE.trans _ _ _ h hh
    rw [show ltE a a = false from Plain.less_irrefl _] at h3
    cases h3
theorem key_beq (y : Ent) (c : ByteArray) : (y.word.toList == c.toList) = decide (key y = c.data.toList) := by
  rw [toList_beq]
  by_cases h : key y = c.data.toList
  · rw [decide_eq_true h, decide_eq_true (ByteArray.ext (Array.toList_inj.1 h))]
  · rw [decide_eq_false h, decide_eq_false (fun e => h (by unfold key; rw [e]))]

theorem below_two_allocs (w : World) (a b : Obj) : RowKit.Below w.heap.size w ((w.alloc a).alloc b) := ((RowKit.Below.refl _ w).alloc (Nat.le_refl _) a).alloc (by simp) b

theorem refBare_any (a : Ent) (w : World) : Calls Tryd.prog 90 #[.agg (enc a).toArray] w fun e w' => e = .returned (.agg (enc (bare a)).toArray) ∧ RowKit.Below w.heap.size w w' := by
  obtain ⟨x, n, g⟩ := a
  unfold enc bare
  cases g
  all_goals
    go_enter Tryd.func90, Tryd.ntmps90
    go_wp2
  · exact bodyPost_ret (v := .agg #[.string x, .int .u32 n, .bool false]) (by simp [results, Tryd.results90, go_sem]) rfl ⟨rfl, below_two_allocs _ _ _⟩
  · exact bodyPost_ret (v := .agg #[.string x, .int .u32 0, .bool true]) (by simp [results, Tryd.results90, go_sem]) rfl ⟨rfl, below_two_allocs _ _ _⟩



theorem putE_split {l : List Ent} (h : risingE l = true) (e : Ent) : putE l e = l.take (placeE l (key e)) ++ e :: l.filter fun x => ltE e x := by
  induction l with
  | nil => rfl
  | cons x l ih =>
    have h' := risingE_cons.1 h
    rw [placeE_cons]
    unfold putE
    by_cases h1 : ltE x e = true
    · rw [if_pos h1, if_pos (show Plain.less (key x) (key e) = true from h1), List.take_succ_cons, ih h'.2, List.filter_cons, swoE.asymmA h1]
      rfl
    · rw [if_neg h1, if_neg (show ¬ Plain.less (key x) (key e) = true from h1)]
      by_cases h2 : ltE e x = true
      · rw [if_pos h2, List.filter_eq_self.2 (fun y hy => by
          rcases List.mem_cons.1 hy with rfl | hy
          · exact h2
          · exact swoE.trans _ _ _ h2 (h'.1 y hy))]
        rfl
      · rw [if_neg h2, List.filter_cons, if_neg h2, List.filter_eq_self.2 (fun y hy => by
          have hk : key x = key e := by
            by_cases c : key x = key e
            · exact c
            · exact absurd (ltE_of (by simpa using h1) c) h2
          have := h'.1 y hy
          rw [ltE_def] at this ⊢
          rwa [← hk])]
        rfl

theorem owns_below {w w' : World} {base : Nat} {e : TypeId} {size : Nat} {v : Value} {n : Nat} {xs : List Value} (h : w.ownsRow base e size v n xs) (hb : RowKit.Below w.heap.size w w') : w'.ownsRow base e size v n xs := by
  refine ⟨h.1, ?_⟩
  rcases h.2 with h' | ⟨g, cap, cur, h1, h2, h3, h4⟩
  · exact .inl h'
  · exact .inr ⟨g, cap, cur, h1, h2, (hb.block g (Array.getElem?_eq_some_iff.1 h3).1).trans h3, h4⟩

/-- The test whether a word is greater. -/
theorem gt_facts (x y : Ent) : (lessT x.word y.word = true → Op.bytesLess y.word.toList x.word.toList = false ∧ (y.word.toList == x.word.toList) = false) ∧
    (lessT x.word y.word = false → Op.bytesLess y.word.toList x.word.toList = true ∨ (Op.bytesLess y.word.toList x.word.toList = false ∧ (y.word.toList == x.word.toList) = true)) := by
  rw [bytesLess_T, key_beq]
  constructor
  · intro h
    exact ⟨swoE.asymmA (show ltE x y = true from h), decide_eq_false (ltE_key _ _ (show ltE x y = true from h)).symm⟩
  · intro h
    cases h2 : lessT y.word x.word with
    | true => exact .inl rfl
    | false =>
      refine .inr ⟨rfl, decide_eq_true ?_⟩
      by_cases e : key y = key x
      · exact e
      · have := ltE_of (show ltE y x = false from h2) e
        rw [show ltE x y = _ from h] at this
        cases this

theorem filter_snoc (p : Ent → Bool) (l : List Ent) (k : Nat) (h : k < l.length) : (l.take (k + 1)).filter p = if p (ent l k) = true then (l.take k).filter p ++ [ent l k] else (l.take k).filter p := by
  rw [List.take_succ_eq_append_getElem h, List.filter_append, ent_lt h]
  cases hg : p l[k] <;> simp [hg]
theorem take_snocE (l : List Ent) (k : Nat) (h : k < l.length) : l.take (k + 1) = l.take k ++ [ent l k] := by
  rw [List.take_succ_eq_append_getElem h, ent_lt h]

theorem below_of_ge {l : List Ent} (h : risingE l = true) (c : List UInt8) {k : Nat} (hk : placeE l c ≤ k) (hl : k < l.length) : Plain.less (key (ent l k)) c = false := by
  refine place_behind h c _ ?_
  rw [ent_lt hl]
  exact List.mem_drop_iff_getElem.2 ⟨k - placeE l c, by omega, by congr 1; omega⟩
theorem less_of_lt (l : List Ent) (c : List UInt8) {k : Nat} (hk : k < placeE l c) : Plain.less (key (ent l k)) c = true := by
  have hl := placeE_le l c
  refine place_before (l := l) c _ ?_
  rw [ent_lt (by omega)]
  exact List.mem_take_iff_getElem.2 ⟨k, by omega, rfl⟩

set_option maxHeartbeats 2000000 in
set_option maxRecDepth 100000 in
theorem refOne_any (l : List Ent) (v : Value) (x : Ent) (w : World) (hr : risingE l = true) (hv : Ents w v l) (hlen : l.length ≤ 100000) :
    Calls Tryd.prog 68 #[v, .agg (enc x).toArray] w fun e w' => ∃ v', e = .returned v' ∧ RowE w' v' (putE l (bare x)) ∧ RowKit.Below w.heap.size w w' := by
  obtain ⟨ad, cp, rfl, hc⟩ := ents_cell hv
  have HC : Hid (∀ W, RowKit.Below w.heap.size w W → ∀ i, i < l.length → ∃ b o, ad = some ⟨b, o, none⟩ ∧ EntAt W b (o + i * 3) (ent l i)) := Lib.hid fun W hW i hi => by
    obtain ⟨b, o, ha, hE⟩ := hc i hi
    exact ⟨b, o, ha, hE.below hW⟩
  have hsplit := putE_split hr (bare x)
  have hsplit2 : putE l (bare x) = l.take (placeE l (key x)) ++ bare x :: l.filter fun y => ltE x y := by
    rw [hsplit, key_bare]
    congr 2
    exact List.filter_congr fun y _ => by rw [ltE_def, ltE_def, key_bare]
  have HP := Lib.hid hsplit2
  have hge := fun k (h1 : placeE l (key x) ≤ k) (h2 : k < l.length) => below_of_ge hr (key x) h1 h2
  have hlt := fun k (h1 : k < placeE l (key x)) => less_of_lt l (key x) h1
  have hple := placeE_le l (key x)
  obtain ⟨p, hp⟩ : ∃ p, placeE l (key x) = p := ⟨_, rfl⟩
  rw [hp] at HP hge hlt hple
  have HGE := Lib.hid hge
  have HLT := Lib.hid hlt
  have q44 := fun w0 => refBare_any x w0
  obtain ⟨z, hz⟩ : ∃ z, bare x = z := ⟨_, rfl⟩
  rw [hz] at q44 HP ⊢
  obtain ⟨X, hX⟩ : ∃ X : Obj, X = .cells #[.string x.word, .int .u32 (x.weight : Int), .bool x.gone] 136 := ⟨_, rfl⟩
  have HBX : Hid (∀ W, RowKit.Below (w.alloc X).heap.size (w.alloc X) W → EntAt W w.heap.size 0 x) := Lib.hid fun W hW => by
    rw [hX] at hW
    exact box_kept hW
  unfold enc at q44 ⊢
  clear hc hv hsplit hsplit2 hge hlt hp hz hr
  go_enter Tryd.func68, Tryd.ntmps68
  go_wp2
  rw [← hX]
  have hb0 := RowKit.Below.refl (w.alloc X).heap.size (w.alloc X)
  have hsz0 : (w.alloc X).heap.size = w.heap.size + 1 := by simp
  clear hX
  go_loopw [5, 6] (fun s5 s6 wr => ∃ k : Nat, k ≤ p ∧ s6 = .int .i64 k ∧ wr.ownsRow (w.alloc X).heap.size 136 3 s5 (l.take k).length (ents (l.take k)) ∧ RowKit.Below (w.alloc X).heap.size (w.alloc X) wr) (fun _ s6 _ => l.length - (intOf s6).toNat)
  case atStart => exact ⟨0, Nat.zero_le _, rfl, ownsE_nil _ _, hb0⟩
  case round =>
    obtain ⟨k, hk, rfl, hown, hb⟩ := hrel
    obtain ⟨g1, g2, g3⟩ := HBX.out wr hb
    have hbw := Below.next (below_alloc w X) hb
    have hsz := hb.size
    by_cases hlt : k < l.length
    · obtain ⟨b, o, rfl, hE⟩ := HC.out wr hbw k hlt
      have hE0 := hE
      obtain ⟨h1, h2, h3⟩ := hE
      have hd : decide ((k : Int) < (l.length : Int)) = true := decide_eq_true (by omega)
      have hbl := bytesLess_T (ent l k).word x.word
      have hsn := take_snocE l k hlt
      by_cases hkp : k < p
      · have hl : lessT (ent l k).word x.word = true := HLT.out k hkp
        rw [hl] at hbl
        obtain ⟨y, hy⟩ : ∃ y, ent l k = y := ⟨_, rfl⟩
        rw [hy] at h1 h2 h3 hbl hsn hE0
        have HS := Lib.hid hsn
        have HE : Hid (EntAt wr b (o + k * 3) y) := Lib.hid hE0
        have HOW := Lib.hid hown
        have hlk : (l.take k).length ≤ k := List.length_take_le _ _
        clear hl hy hsn hE0 hown
        go_wp2
        go_quiet (fail)
        have hb2 := below_drewN hb nq
        have hown2 : (wr.drewN nq).ownsRow (w.alloc X).heap.size 136 3 _ (l.take k).length (ents (l.take k)) := HOW.out
        have hE2 : EntAt (wr.drewN nq) b (o + k * 3) y := HE.out
        clear h1 h2 h3 g1 g2 g3 HE HOW
        generalize wr.drewN nq = w2 at hb2 hown2 hE2 ⊢
        obtain ⟨h1, h2, h3⟩ := hE2
        have hO1 := Lib.hid (hown2.alloc (.cells #[.string y.word, .int .u32 (y.weight : Int), .bool y.gone] 136))
        have hO2 := Lib.hid (ents_single (w := w2) (x := y) (g := w2.heap.size) rfl)
        go_wp2_with (at_builtin; refine wpList_append_ents rfl _ _ rfl rfl (w.alloc X).heap.size _ _ (l.take k) [y] rfl rfl hO1.out hO2.out (by simp; omega) (by have := hb2.size; simp at this ⊢; omega) ?_; intro v' w' o1 gr1)
        exact ⟨⟨k + 1, by omega, by go_num, by rw [HS.out]; exact o1, (below_alloc' hb2).grown gr1 (by have := hb2.size; simp at this ⊢; omega) (fun j hj => (hown2.lt j hj).1)⟩, by simp [intOf]; omega⟩
      · have hl : lessT (ent l k).word x.word = false := HGE.out k (by omega) hlt
        rw [hl] at hbl
        obtain rfl : k = p := by omega
        obtain ⟨y, hy⟩ : ∃ y, ent l k = y := ⟨_, rfl⟩
        rw [hy] at h1 h2 h3 hbl
        have HOW := Lib.hid hown
        clear hl hy hsn hE0 hown
        go_wp2
        go_quiet (fail)
        have hb2 := below_drewN hb nq
        have hown2 : (wr.drewN nq).ownsRow (w.alloc X).heap.size 136 3 _ (l.take k).length (ents (l.take k)) := HOW.out
        clear h1 h2 h3 g1 g2 g3 HOW
        generalize wr.drewN nq = w2 at hb2 hown2 ⊢
        obtain ⟨g1, g2, g3⟩ := HBX.out w2 hb2
        have hgl : w.heap.size < w2.heap.size := block_lt_of_cell g1
        have hlk : (l.take k).length ≤ k := List.length_take_le _ _
        have hszw := hb2.size
        have HOWN := Lib.hid hown2
        have HB2 := Lib.hid hb2
        have hlt2 := hown2.lt
        have HLT2 := Lib.hid hlt2
        clear hown2 hb2 hlt2
        go_wp2_with (first
          | (go_at_call 90; (with_reducible refine (q44 _).mono ?_); rintro e w3 ⟨rfl, hb3⟩; have hsz3 := hb3.size; have HO1 := Lib.hid ((owns_below HOWN.out hb3).alloc (.cells #[.string z.word, .int .u32 (z.weight : Int), .bool z.gone] 136)); have HO2 := Lib.hid (ents_single (w := w3) (x := z) (g := w3.heap.size) rfl))
          | (at_builtin; refine wpList_append_ents rfl _ _ rfl rfl (w.alloc X).heap.size _ _ (l.take k) [z] rfl rfl HO1.out HO2.out (by simp; omega) (by simp at hszw ⊢; omega) ?_; intro v' w4 o4 gr4))
        have hb4 := (below_alloc' (o := .cells #[.string z.word, .int .u32 (z.weight : Int), .bool z.gone] 136) (Below.next HB2.out hb3)).grown gr4 (by have := HB2.out.size; simp at this ⊢; omega) (fun j hj => (HLT2.out j hj).1)
        clear hb3 HO1 HO2 gr4
        generalize hP : l.take k ++ [z] = A at o4
        have hA : A.length ≤ k + 1 := by rw [← hP]; simp; omega
        have HP1 := Lib.hid hP
        clear hP
        go_loopw [5, 7] (fun s5 s7 wr => ∃ j : Nat, j ≤ l.length ∧ s7 = .int .i64 j ∧ wr.ownsRow (w.alloc X).heap.size 136 3 s5 (A ++ (l.take j).filter fun y => ltE x y).length (ents (A ++ (l.take j).filter fun y => ltE x y)) ∧ RowKit.Below (w.alloc X).heap.size (w.alloc X) wr) (fun _ s7 _ => l.length - (intOf s7).toNat)
        case atStart => exact ⟨0, Nat.zero_le _, rfl, by simpa using o4, hb4⟩
        case round =>
          clear o4 hb4
          obtain ⟨j, hj, rfl, hown, hb⟩ := hrel
          obtain ⟨g1, g2, g3⟩ := HBX.out wr hb
          have hbw := Below.next (below_alloc w X) hb
          have hsz := hb.size
          by_cases hlt : j < l.length
          · obtain ⟨b, o, hadd, hE⟩ := HC.out wr hbw j hlt
            cases hadd
            have hE0 := hE
            obtain ⟨h1, h2, h3⟩ := hE
            have hsn := filter_snoc (fun y => ltE x y) l j hlt
            have hfl : ((l.take j).filter fun y => ltE x y).length ≤ l.length := Nat.le_trans (List.length_filter_le ..) (by rw [List.length_take]; omega)
            obtain ⟨F, hF⟩ : ∃ F, ((l.take j).filter fun y => ltE x y) = F := ⟨_, rfl⟩
            rw [hF] at hsn hown hfl
            obtain ⟨y, hy⟩ : ∃ y, ent l j = y := ⟨_, rfl⟩
            rw [hy] at h1 h2 h3 hE0 hsn
            have hgt := gt_facts x y
            have HE : Hid (EntAt wr b (o + j * 3) y) := Lib.hid hE0
            have HOW := Lib.hid hown
            cases hc : lessT x.word y.word with
            | true =>
              obtain ⟨hbl, hbe⟩ := hgt.1 hc
              rw [if_pos (show ltE x y = true from hc)] at hsn
              have HS := Lib.hid hsn
              clear hgt hc hy hsn hE0 hown hF
              go_wp2
              go_quiet (fail)
              have hb2 := below_drewN hb nq
              have hown2 : (wr.drewN nq).ownsRow (w.alloc X).heap.size 136 3 _ (A ++ F).length (ents (A ++ F)) := HOW.out
              have hE2 : EntAt (wr.drewN nq) b (o + j * 3) y := HE.out
              clear h1 h2 h3 g1 g2 g3 HE HOW
              generalize wr.drewN nq = w5 at hb2 hown2 hE2 ⊢
              obtain ⟨h1, h2, h3⟩ := hE2
              have hO1 := Lib.hid (hown2.alloc (.cells #[.string y.word, .int .u32 (y.weight : Int), .bool y.gone] 136))
              have hO2 := Lib.hid (ents_single (w := w5) (x := y) (g := w5.heap.size) rfl)
              go_wp2_with (at_builtin; refine wpList_append_ents rfl _ _ rfl rfl (w.alloc X).heap.size _ _ (A ++ F) [y] rfl rfl hO1.out hO2.out (by simp; omega) (by have := hb2.size; simp at this ⊢; omega) ?_; intro v' w' o1 gr1)
              exact ⟨⟨j + 1, by omega, by go_num, by rw [HS.out, ← List.append_assoc]; exact o1, (below_alloc' hb2).grown gr1 (by have := hb2.size; simp at this ⊢; omega) (fun q hq => (hown2.lt q hq).1)⟩, by simp [intOf]; omega⟩
            | false =>
              rcases hgt.2 hc with hbl | ⟨hbl, hbe⟩
              all_goals
                rw [if_neg (show ¬ ltE x y = true by rw [show ltE x y = _ from hc]; simp)] at hsn
                have HS := Lib.hid hsn
                clear hgt hc hy hsn hE0 hown hF HE
                go_wp2
                go_quiet (fail)
                have hb2 := below_drewN hb nq
                have hown2 : (wr.drewN nq).ownsRow (w.alloc X).heap.size 136 3 _ (A ++ F).length (ents (A ++ F)) := HOW.out
                clear h1 h2 h3 g1 g2 g3 HOW
                generalize wr.drewN nq = w5 at hb2 hown2 ⊢
                go_wp2
                exact ⟨⟨j + 1, by omega, by go_num, by rw [HS.out]; exact hown2, hb2⟩, by simp [intOf]; omega⟩
          · obtain rfl : j = l.length := by omega
            rw [List.take_length] at hown
            have HOW := Lib.hid hown
            clear hown
            go_wp2
            go_ret
            refine ⟨_, rfl, ?_, hbw⟩
            have hh := rowE_owns HOW.out
            rw [HP.out]
            rwa [← HP1.out, List.append_assoc] at hh
    · obtain rfl : k = p := by omega
      have hd : decide ((k : Int) < (l.length : Int)) = false := decide_eq_false (by omega)
      have HOW := Lib.hid hown
      clear hown
      go_wp2
      go_quiet (fail)
      have hb2 := below_drewN hb nq
      have hown2 : (wr.drewN nq).ownsRow (w.alloc X).heap.size 136 3 _ (l.take k).length (ents (l.take k)) := HOW.out
      clear g1 g2 g3 HOW
      generalize wr.drewN nq = w2 at hb2 hown2 ⊢
      obtain ⟨g1, g2, g3⟩ := HBX.out w2 hb2
      have hgl : w.heap.size < w2.heap.size := block_lt_of_cell g1
      have hlk : (l.take k).length ≤ k := List.length_take_le _ _
      have hszw := hb2.size
      have HOWN := Lib.hid hown2
      have HB2 := Lib.hid hb2
      have hlt2 := hown2.lt
      have HLT2 := Lib.hid hlt2
      clear hown2 hb2 hlt2
      go_wp2_with (first
        | (go_at_call 90; (with_reducible refine (q44 _).mono ?_); rintro e w3 ⟨rfl, hb3⟩; have hsz3 := hb3.size; have HO1 := Lib.hid ((owns_below HOWN.out hb3).alloc (.cells #[.string z.word, .int .u32 (z.weight : Int), .bool z.gone] 136)); have HO2 := Lib.hid (ents_single (w := w3) (x := z) (g := w3.heap.size) rfl))
        | (at_builtin; refine wpList_append_ents rfl _ _ rfl rfl (w.alloc X).heap.size _ _ (l.take k) [z] rfl rfl HO1.out HO2.out (by simp; omega) (by simp at hszw ⊢; omega) ?_; intro v' w4 o4 gr4))
      have hb4 := (below_alloc' (o := .cells #[.string z.word, .int .u32 (z.weight : Int), .bool z.gone] 136) (Below.next HB2.out hb3)).grown gr4 (by have := HB2.out.size; simp at this ⊢; omega) (fun j hj => (HLT2.out j hj).1)
      clear hb3 HO1 HO2 gr4
      generalize hP : l.take k ++ [z] = A at o4
      have hA : A.length ≤ k + 1 := by rw [← hP]; simp; omega
      have HP1 := Lib.hid hP
      clear hP
      go_loopw [5, 7] (fun s5 s7 wr => ∃ j : Nat, j ≤ l.length ∧ s7 = .int .i64 j ∧ wr.ownsRow (w.alloc X).heap.size 136 3 s5 (A ++ (l.take j).filter fun y => ltE x y).length (ents (A ++ (l.take j).filter fun y => ltE x y)) ∧ RowKit.Below (w.alloc X).heap.size (w.alloc X) wr) (fun _ s7 _ => l.length - (intOf s7).toNat)
      case atStart => exact ⟨0, Nat.zero_le _, rfl, by simpa using o4, hb4⟩
      case round =>
        clear o4 hb4
        obtain ⟨j, hj, rfl, hown, hb⟩ := hrel
        obtain ⟨g1, g2, g3⟩ := HBX.out wr hb
        have hbw := Below.next (below_alloc w X) hb
        have hsz := hb.size
        by_cases hlt : j < l.length
        · obtain ⟨b, o, hadd, hE⟩ := HC.out wr hbw j hlt
          cases hadd
          have hE0 := hE
          obtain ⟨h1, h2, h3⟩ := hE
          have hsn := filter_snoc (fun y => ltE x y) l j hlt
          have hfl : ((l.take j).filter fun y => ltE x y).length ≤ l.length := Nat.le_trans (List.length_filter_le ..) (by rw [List.length_take]; omega)
          obtain ⟨F, hF⟩ : ∃ F, ((l.take j).filter fun y => ltE x y) = F := ⟨_, rfl⟩
          rw [hF] at hsn hown hfl
          obtain ⟨y, hy⟩ : ∃ y, ent l j = y := ⟨_, rfl⟩
          rw [hy] at h1 h2 h3 hE0 hsn
          have hgt := gt_facts x y
          have HE : Hid (EntAt wr b (o + j * 3) y) := Lib.hid hE0
          have HOW := Lib.hid hown
          cases hc : lessT x.word y.word with
          | true =>
            obtain ⟨hbl, hbe⟩ := hgt.1 hc
            rw [if_pos (show ltE x y = true from hc)] at hsn
            have HS := Lib.hid hsn
            clear hgt hc hy hsn hE0 hown hF
            go_wp2
            go_quiet (fail)
            have hb2 := below_drewN hb nq
            have hown2 : (wr.drewN nq).ownsRow (w.alloc X).heap.size 136 3 _ (A ++ F).length (ents (A ++ F)) := HOW.out
            have hE2 : EntAt (wr.drewN nq) b (o + j * 3) y := HE.out
            clear h1 h2 h3 g1 g2 g3 HE HOW
            generalize wr.drewN nq = w5 at hb2 hown2 hE2 ⊢
            obtain ⟨h1, h2, h3⟩ := hE2
            have hO1 := Lib.hid (hown2.alloc (.cells #[.string y.word, .int .u32 (y.weight : Int), .bool y.gone] 136))
            have hO2 := Lib.hid (ents_single (w := w5) (x := y) (g := w5.heap.size) rfl)
            go_wp2_with (at_builtin; refine wpList_append_ents rfl _ _ rfl rfl (w.alloc X).heap.size _ _ (A ++ F) [y] rfl rfl hO1.out hO2.out (by simp; omega) (by have := hb2.size; simp at this ⊢; omega) ?_; intro v' w' o1 gr1)
            exact ⟨⟨j + 1, by omega, by go_num, by rw [HS.out, ← List.append_assoc]; exact o1, (below_alloc' hb2).grown gr1 (by have := hb2.size; simp at this ⊢; omega) (fun q hq => (hown2.lt q hq).1)⟩, by simp [intOf]; omega⟩
          | false =>
            rcases hgt.2 hc with hbl | ⟨hbl, hbe⟩
            all_goals
              rw [if_neg (show ¬ ltE x y = true by rw [show ltE x y = _ from hc]; simp)] at hsn
              have HS := Lib.hid hsn
              clear hgt hc hy hsn hE0 hown hF HE
              go_wp2
              go_quiet (fail)
              have hb2 := below_drewN hb nq
              have hown2 : (wr.drewN nq).ownsRow (w.alloc X).heap.size 136 3 _ (A ++ F).length (ents (A ++ F)) := HOW.out
              clear h1 h2 h3 g1 g2 g3 HOW
              generalize wr.drewN nq = w5 at hb2 hown2 ⊢
              go_wp2
              exact ⟨⟨j + 1, by omega, by go_num, by rw [HS.out]; exact hown2, hb2⟩, by simp [intOf]; omega⟩
        · obtain rfl : j = l.length := by omega
          rw [List.take_length] at hown
          have HOW := Lib.hid hown
          clear hown
          go_wp2
          go_ret
          refine ⟨_, rfl, ?_, hbw⟩
          have hh := rowE_owns HOW.out
          rw [HP.out]
          rwa [← HP1.out, List.append_assoc] at hh
end Go.Proofs.YtjiilmiikejnhaaDoor.Ev
namespace Go.Proofs.YtjiilmiikejnhaaDoor.Ev
open Go.RowKit Go.Sort

def withT (l es : List Ent) : List Ent := es.foldl (fun l e => putE l (bare e)) l
theorem foldl_put_rising (f : Ent → Ent) : ∀ (es l : List Ent), risingE l = true → risingE (es.foldl (fun l e => putE l (f e)) l) = true
  | [], _, h => h
  | _ :: es, _, h => foldl_put_rising f es _ (putE_rising h _)

theorem withT_rising {l : List Ent} (h : risingE l = true) (es : List Ent) : risingE (withT l es) = true := foldl_put_rising bare es l h
theorem withT_length (l es : List Ent) : (withT l es).length ≤ l.length + es.length := by
  unfold withT
  induction es generalizing l with
  | nil => simp
  | cons e es ih =>
    rw [List.foldl_cons, List.length_cons]
    have h1 := ih (putE l (bare e))
    have h2 := putE_length l (bare e)
    omega

theorem withT_snoc (l es : List Ent) (k : Nat) (h : k < es.length) : withT l (es.take (k + 1)) = putE (withT l (es.take k)) (bare (ent es k)) := by
  unfold withT
  rw [List.take_succ_eq_append_getElem h, List.foldl_append, ent_lt h]
  rfl

set_option maxHeartbeats 1000000 in
set_option maxRecDepth 100000 in
theorem refWith_any (l es : List Ent) (v ve : Value) (w : World) (hr : risingE l = true) (hv : Ents w v l) (hve : Ents w ve es) (hl : l.length ≤ 1000) (hle : es.length ≤ 1000) :
    Calls Tryd.prog 45 #[v, ve] w fun e w' => ∃ v', e = .returned v' ∧ RowE w' v' (withT l es) ∧ RowKit.Below w.heap.size w w' := by
  obtain ⟨ad, cp, rfl, hc⟩ := ents_cell hve
  have HC : Hid (∀ W, RowKit.Below w.heap.size w W → ∀ i, i < es.length → ∃ b o, ad = some ⟨b, o, none⟩ ∧ EntAt W b (o + i * 3) (ent es i)) := Lib.hid fun W hW i hi => by
    obtain ⟨b, o, ha, hE⟩ := hc i hi
    exact ⟨b, o, ha, hE.below hW⟩
  have HV := Lib.hid hv
  have HR := Lib.hid hr
  obtain ⟨adl, cl, rfl, _⟩ := id hv
  clear hc hve hv hr
  go_enter Tryd.func45, Tryd.ntmps45
  go_wp2_with (at_builtin; refine wpList_append_ents rfl _ _ rfl rfl w.heap.size (.slice none 0 0) _ [] l rfl rfl (ownsE_nil w _) HV.out (by simp; omega) (Nat.le_refl _) ?_; intro v' w1 o1 gr1)
  have hb1 := (RowKit.Below.refl w.heap.size w).grown gr1 (Nat.le_refl _) (fun k hk => by simp [Value.ownBlock] at hk)
  have hrow : RowE w1 v' l := by have := rowE_owns o1; simpa using this
  clear o1 gr1
  go_loopw [5, 6] (fun s5 s6 wr => ∃ k : Nat, k ≤ es.length ∧ s6 = .int .i64 k ∧ RowE wr s5 (withT l (es.take k)) ∧ RowKit.Below w.heap.size w wr) (fun _ s6 _ => es.length - (intOf s6).toNat)
  case atStart => exact ⟨0, Nat.zero_le _, rfl, hrow, hb1⟩
  case round =>
    clear hrow hb1
    obtain ⟨k, hk, rfl, hrow, hb⟩ := hrel
    by_cases hlt : k < es.length
    · obtain ⟨b, o, rfl, hE⟩ := HC.out _ hb k hlt
      obtain ⟨h1, h2, h3⟩ := hE
      have hsn := withT_snoc l es k hlt
      have hlen := withT_length l (es.take k)
      rw [List.length_take] at hlen
      obtain ⟨y, hy⟩ : ∃ y, ent es k = y := ⟨_, rfl⟩
      rw [hy] at h1 h2 h3 hsn
      have hO1 := withT_rising HR.out (es.take k)
      obtain ⟨O, hO⟩ : ∃ O, withT l (es.take k) = O := ⟨_, rfl⟩
      rw [hO] at hsn hrow hlen hO1
      have q43 := refOne_any O _ y _ hO1 hrow.ents (by omega)
      unfold enc at q43
      have HS := Lib.hid hsn
      clear hy hsn hO hO1 hrow
      go_wp2_with (go_at_call 68; (with_reducible refine q43.mono ?_); rintro e w2 ⟨v2, rfl, hr2, hb2⟩)
      exact ⟨⟨k + 1, by omega, by go_num, by rw [HS.out]; exact hr2, Below.next hb hb2⟩, by simp [intOf]; omega⟩
    · obtain rfl : k = es.length := by omega
      rw [List.take_length] at hrow
      have HRW := Lib.hid hrow
      clear hrow
      go_wp2
      go_ret
      exact ⟨_, rfl, HRW.out, hb⟩
end Go.Proofs.YtjiilmiikejnhaaDoor.Ev
namespace Go.Proofs.YtjiilmiikejnhaaDoor.Ev
open Go.RowKit Go.Sort

/-- A draft: letters by numbers, a weight, whether it is gone. -/
structure Draft where
  letters : List Nat
  weight : Nat
  gone : Bool

/-- The letter of a number. -/
def letN (c : Nat) : Nat := if c % 8 < 7 then 97 + c % 8 % 3 else c
/-- The first letters. -/
def lets (cs : List Nat) : List UInt8 := cs.map fun c => UInt8.ofNat (letN c)
def draftWord (d : Draft) : ByteArray := if d.letters = [] then ⟨#[97]⟩ else ⟨(lets (d.letters.take 9)).toArray⟩
/-- What a draft says. -/
def draftE (d : Draft) : Ent := bare ⟨draftWord d, d.weight, d.gone⟩

/-- Bytes in memory. -/
def Nums8 (w : World) (v : Value) (l : List Nat) : Prop :=
  ∃ ad c, v = .slice ad l.length c ∧ ∀ i, i < l.length → ∃ b o, ad = some ⟨b, o, none⟩ ∧ w.cell? ⟨b, o + i, none⟩ = some (.int .u8 (l.getD i 0 : Nat))

/-- A draft by value. -/
structure DraftV (w : World) (v : Value) (d : Draft) : Prop where
  lets : ∃ u, v = .agg #[u, .int .u32 (d.weight : Int), .bool d.gone] ∧ Nums8 w u d.letters
  small : ∀ c ∈ d.letters, c < 256

theorem Nums8.below {w w' : World} {v : Value} {l : List Nat} (h : Nums8 w v l) (hb : RowKit.Below w.heap.size w w') : Nums8 w' v l := by
  obtain ⟨ad, c, hv, hc⟩ := h
  refine ⟨ad, c, hv, fun i hi => ?_⟩
  obtain ⟨b, o, ha, hci⟩ := hc i hi
  refine ⟨b, o, ha, ?_⟩
  rw [hb.cell (p := ⟨b, o + i, none⟩) (block_lt_of_cell hci)]
  exact hci

theorem DraftV.below {w w' : World} {v : Value} {d : Draft} (h : DraftV w v d) (hb : RowKit.Below w.heap.size w w') : DraftV w' v d := by
  obtain ⟨u, hv, hn⟩ := h.lets
  exact ⟨⟨u, hv, hn.below hb⟩, h.small⟩

theorem letN_lt {c : Nat} (h : c < 256) : letN c < 256 := by unfold letN; split <;> omega

set_option maxRecDepth 100000 in
theorem rowOf_one (W : World) (n : Nat) (hn : n < 256) : (convert 43 9 (.slice (some ⟨W.heap.size, 0, none⟩) 1 1)).run Tryd.prog (W.alloc (.cells #[.int .u8 (n : Int)] 5)) = .ok (.string ⟨#[UInt8.ofNat n]⟩) (W.alloc (.cells #[.int .u8 (n : Int)] 5)) := by
  have hrow : RowOf (W.alloc (.cells #[.int .u8 (n : Int)] 5)) W.heap.size [UInt8.ofNat n] := by
    constructor
    · intro i hi
      have : i = 0 := by simpa using hi
      subst this
      simp [Nat.mod_eq_of_lt hn]
    · intro i _
      exact World.frozen?_alloc_at (w := W) (hn := rfl) ..
  exact rowOf_str (c := 1) hrow

theorem str_snoc (A : List UInt8) (x : UInt8) : (⟨A.toArray⟩ : ByteArray) ++ ⟨#[x]⟩ = ⟨(A ++ [x]).toArray⟩ := by
  apply ba_ext
  rw [ba_append]

theorem lets_snoc (cs : List Nat) (k : Nat) (h : k < cs.length) : lets (cs.take (k + 1)) = lets (cs.take k) ++ [UInt8.ofNat (letN (cs.getD k 0))] := by
  unfold lets
  rw [List.take_succ_eq_append_getElem h, List.map_append]
  simp [List.getD, h]

set_option maxHeartbeats 1000000 in
set_option maxRecDepth 100000 in
theorem draft_any (d : Draft) (v : Value) (w : World) (hd : DraftV w v d) (hlen : d.letters.length ≤ 9223372036854775807) :
    Calls Tryd.prog 69 #[v] w fun e w' => e = .returned (.agg (enc (draftE d)).toArray) ∧ RowKit.Below w.heap.size w w' := by
  obtain ⟨⟨u, rfl, hn⟩, hs⟩ := hd
  obtain ⟨ad, cp, rfl, hc⟩ := hn
  obtain ⟨cs, wt, gn⟩ := d
  simp only at hs hc hlen ⊢
  have HC : Hid (∀ W, RowKit.Below w.heap.size w W → ∀ i, i < cs.length → ∃ b o, ad = some ⟨b, o, none⟩ ∧ W.cell? ⟨b, o + i, none⟩ = some (.int .u8 (cs.getD i 0 : Nat))) := Lib.hid fun W hW i hi => by
    obtain ⟨b, o, ha, hE⟩ := hc i hi
    exact ⟨b, o, ha, by rw [hW.cell (p := ⟨b, o + i, none⟩) (block_lt_of_cell hE)]; exact hE⟩
  have HS := Lib.hid hs
  obtain ⟨z, hz⟩ : ∃ z, draftE ⟨cs, wt, gn⟩ = z := ⟨_, rfl⟩
  rw [hz]
  have HZ := Lib.hid hz
  unfold enc
  clear hc hs hz
  go_enter Tryd.func69, Tryd.ntmps69
  go_wp2
  generalize hW1 : (w.alloc (.cells #[.slice ad cs.length cp, .int .u32 (wt : Int), .bool gn] 138)).alloc (.cells #[.string ⟨#[]⟩, .int .u32 0, .bool false] 136) = W1
  have hb01 : RowKit.Below w.heap.size w W1 := by rw [← hW1]; exact below_two_allocs _ _ _
  have hz1 : W1.heap.size = w.heap.size + 2 := by rw [← hW1]; simp
  have HBX : Hid (∀ W, RowKit.Below W1.heap.size W1 W → (W.cell? ⟨w.heap.size, 0, none⟩ = some (.slice ad cs.length cp) ∧ W.cell? ⟨w.heap.size, 1, none⟩ = some (.int .u32 (wt : Int)) ∧ W.cell? ⟨w.heap.size, 2, none⟩ = some (.bool gn)) ∧
      (W.cell? ⟨w.heap.size + 1, 0, none⟩ = some (.string ⟨#[]⟩) ∧ W.cell? ⟨w.heap.size + 1, 1, none⟩ = some (.int .u32 0) ∧ W.cell? ⟨w.heap.size + 1, 2, none⟩ = some (.bool false))) := Lib.hid fun W hW => by
    have f : ∀ b o, b < w.heap.size + 2 → W.cell? ⟨b, o, none⟩ = W1.cell? ⟨b, o, none⟩ := fun b o h => hW.cell (p := ⟨b, o, none⟩) (by rw [hz1]; exact h)
    refine ⟨⟨?_, ?_, ?_⟩, ?_, ?_, ?_⟩
    all_goals (rw [f _ _ (by omega), ← hW1]; simp)
  have HFZ : Hid (∀ W, RowKit.Below W1.heap.size W1 W → ∀ o, W.frozen? ⟨w.heap.size + 1, o, none⟩ = false) := Lib.hid fun W hW o => by
    rw [hW.frozen (p := ⟨w.heap.size + 1, o, none⟩) (by rw [hz1]; show w.heap.size + 1 < _; omega), ← hW1]
    simp
  have HW1 := Lib.hid hW1
  clear hW1
  go_loopw [3, 4] (fun s3 s4 wr => ∃ k : Nat, k ≤ cs.length ∧ k ≤ 9 ∧ s3 = .string ⟨(lets (cs.take k)).toArray⟩ ∧ s4 = .int .i64 k ∧ RowKit.Below W1.heap.size W1 wr) (fun _ s4 _ => 9 - (intOf s4).toNat)
  case atStart => exact ⟨0, Nat.zero_le _, Nat.zero_le _, rfl, rfl, RowKit.Below.refl _ _⟩
  case round =>
    obtain ⟨k, hk, hk9, rfl, rfl, hb⟩ := hrel
    obtain ⟨⟨g1, g2, g3⟩, g4, g5, g6⟩ := HBX.out wr hb
    have hbw := Below.next hb01 hb
    by_cases hlt : k < cs.length ∧ k < 9
    · obtain ⟨hl1, hl2⟩ := hlt
      have hd1 : decide ((k : Int) < (cs.length : Int)) = true := decide_eq_true (by omega)
      have hd2 : decide ((k : Int) < 9) = true := decide_eq_true (by omega)
      obtain ⟨b, o, rfl, hE⟩ := HC.out _ hbw k hl1
      have hsn := lets_snoc cs k hl1
      obtain ⟨n, hn⟩ : ∃ n, cs.getD k 0 = n := ⟨_, rfl⟩
      have hn8 : n < 256 := by rw [← hn]; exact HS.out _ (by simp [List.getD, hl1])
      rw [hn] at hE hsn
      obtain ⟨m, hm⟩ : ∃ m, letN n = m := ⟨_, rfl⟩
      have hm8 : m < 256 := by rw [← hm]; exact letN_lt hn8
      rw [hm] at hsn
      have hcv := rowOf_one wr m hm8
      have hAl : (lets (cs.take k)).length ≤ k := by unfold lets; rw [List.length_map]; exact List.length_take_le _ _
      obtain ⟨A, hA⟩ : ∃ A, lets (cs.take k) = A := ⟨_, rfl⟩
      rw [hA] at hsn hAl ⊢
      have HSN := Lib.hid hsn
      clear hn hA hsn
      by_cases h7 : n % 8 < 7
      · have c1 : decide ((n : Int) % 8 < 7) = true := decide_eq_true (by omega)
        have e1 : 97 + (n : Int) % 8 % 3 = (m : Int) := by unfold letN at hm; rw [if_pos h7] at hm; omega
        clear hm h7
        go_wp2
        exact ⟨⟨k + 1, by omega, by omega, by rw [HSN.out, str_snoc], by go_num, below_alloc' hb⟩, by simp [intOf]; omega⟩
      · have c1 : decide ((n : Int) % 8 < 7) = false := decide_eq_false (by omega)
        obtain rfl : n = m := by unfold letN at hm; rw [if_neg h7] at hm; exact hm
        clear h7
        go_wp2
        exact ⟨⟨k + 1, by omega, by omega, by rw [HSN.out, str_snoc], by go_num, below_alloc' hb⟩, by simp [intOf]; omega⟩
    · have hkk : k = min cs.length 9 := by omega
      have hS : draftWord ⟨cs, wt, gn⟩ = if cs = [] then ⟨#[97]⟩ else ⟨(lets (cs.take k)).toArray⟩ := by
        unfold draftWord
        simp only
        rw [show cs.take k = cs.take 9 by
          rcases Nat.le_total cs.length 9 with h | h
          · rw [hkk, Nat.min_eq_left h, List.take_length, List.take_of_length_le h]
          · rw [hkk, Nat.min_eq_right h]]
      have q44 := fun w0 => refBare_any ⟨draftWord ⟨cs, wt, gn⟩, wt, gn⟩ w0
      rw [show bare ⟨draftWord ⟨cs, wt, gn⟩, wt, gn⟩ = draftE ⟨cs, wt, gn⟩ from rfl, HZ.out] at q44
      unfold enc at q44
      simp only at q44
      have hd : ¬ k < cs.length ∨ (k < cs.length ∧ decide ((k : Int) < 9) = false) := by
        rcases Nat.lt_or_ge k cs.length with h | h
        · exact .inr ⟨h, decide_eq_false (by omega)⟩
        · exact .inl (by omega)
      by_cases hcs : cs = []
      · rw [hcs, if_pos rfl] at hS
        have hk0 : k = 0 := by rw [hkk, hcs]; rfl
        subst hk0
        have hl : lets (cs.take 0) = [] := rfl
        rw [hl]
        rw [hcs] at q44
        rw [hS] at q44
        have hd1 : ¬ 0 < cs.length := by rw [hcs]; simp
        clear hd hS hkk hlt hcs
        go_wp2_with (go_at_call 90; (with_reducible refine (q44 _).mono ?_); rintro e w1 ⟨rfl, hb1⟩; have hf1 := HFZ.out _ (Below.next hb hb1); have hbx := (HBX.out _ (Below.next hb hb1)).2; obtain ⟨m0, m1, m2⟩ := hbx)
        obtain ⟨k0, k1, k2⟩ := (HBX.out _ (Below.next hb hb1)).2
        have hbw2 := Below.next hbw hb1
        have k3 := set3 k0 k1 k2 (.string z.word) (.int .u32 z.weight) (.bool z.gone)
        have hbw3 := ((hbw2.setCell (p := ⟨w.heap.size + 1, 0, none⟩) (Nat.le_succ _) (.string z.word)).setCell (p := ⟨w.heap.size + 1, 1, none⟩) (Nat.le_succ _) (.int .u32 z.weight)).setCell (p := ⟨w.heap.size + 1, 2, none⟩) (Nat.le_succ _) (.bool z.gone)
        generalize ((w1.setCell ⟨w.heap.size + 1, 0, none⟩ (.string z.word)).setCell ⟨w.heap.size + 1, 1, none⟩ (.int .u32 z.weight)).setCell ⟨w.heap.size + 1, 2, none⟩ (.bool z.gone) = w3 at k3 hbw3 ⊢
        obtain ⟨k4, k5, k6⟩ := k3
        exact bodyPost_ret (v := .agg #[.string z.word, .int .u32 z.weight, .bool z.gone]) (by simp [results, Tryd.results69, go_sem, k4, k5, k6]) rfl ⟨rfl, hbw3⟩
      · rw [if_neg hcs] at hS
        have hk1 : 0 < k := by
          have : 0 < cs.length := List.length_pos_iff.2 hcs
          omega
        have hne : lets (cs.take k) ≠ [] := by
          intro h
          have h2 := congrArg List.length h
          unfold lets at h2
          rw [List.length_map, List.length_take, List.length_nil] at h2
          have : 0 < cs.length := List.length_pos_iff.2 hcs
          omega
        rw [hS] at q44
        obtain ⟨A, hA⟩ : ∃ A, lets (cs.take k) = A := ⟨_, rfl⟩
        rw [hA] at hne q44 ⊢
        have he1 : A.isEmpty = false := by simpa using hne
        clear hS hkk hlt hcs hA hne hk1
        rcases hd with hd1 | ⟨hd1, hd2⟩
        all_goals
          go_wp2_with (go_at_call 90; (with_reducible refine (q44 _).mono ?_); rintro e w1 ⟨rfl, hb1⟩; have hf1 := HFZ.out _ (Below.next hb hb1); have hbx := (HBX.out _ (Below.next hb hb1)).2; obtain ⟨m0, m1, m2⟩ := hbx)
          obtain ⟨k0, k1, k2⟩ := (HBX.out _ (Below.next hb hb1)).2
          have hbw2 := Below.next hbw hb1
          have k3 := set3 k0 k1 k2 (.string z.word) (.int .u32 z.weight) (.bool z.gone)
          have hbw3 := ((hbw2.setCell (p := ⟨w.heap.size + 1, 0, none⟩) (Nat.le_succ _) (.string z.word)).setCell (p := ⟨w.heap.size + 1, 1, none⟩) (Nat.le_succ _) (.int .u32 z.weight)).setCell (p := ⟨w.heap.size + 1, 2, none⟩) (Nat.le_succ _) (.bool z.gone)
          generalize ((w1.setCell ⟨w.heap.size + 1, 0, none⟩ (.string z.word)).setCell ⟨w.heap.size + 1, 1, none⟩ (.int .u32 z.weight)).setCell ⟨w.heap.size + 1, 2, none⟩ (.bool z.gone) = w3 at k3 hbw3 ⊢
          obtain ⟨k4, k5, k6⟩ := k3
          exact bodyPost_ret (v := .agg #[.string z.word, .int .u32 z.weight, .bool z.gone]) (by simp [results, Tryd.results69, go_sem, k4, k5, k6]) rfl ⟨rfl, hbw3⟩
end Go.Proofs.YtjiilmiikejnhaaDoor.Ev
namespace Go.Proofs.YtjiilmiikejnhaaDoor.Ev
open Go.RowKit Go.Sort

instance : Inhabited Draft := ⟨⟨[], 0, false⟩⟩

/-- A draft lies there. -/
def DraftAt (w : World) (b o : Nat) (d : Draft) : Prop :=
  ∃ u, w.cell? ⟨b, o, none⟩ = some u ∧ w.cell? ⟨b, o + 1, none⟩ = some (.int .u32 (d.weight : Int)) ∧ w.cell? ⟨b, o + 2, none⟩ = some (.bool d.gone) ∧ DraftV w (.agg #[u, .int .u32 (d.weight : Int), .bool d.gone]) d ∧ d.letters.length ≤ 9223372036854775807

theorem DraftAt.below {w w' : World} {b o : Nat} {d : Draft} (h : DraftAt w b o d) (hb : RowKit.Below w.heap.size w w') : DraftAt w' b o d := by
  obtain ⟨u, h1, h2, h3, h4, h5⟩ := h
  refine ⟨u, ?_, ?_, ?_, h4.below hb, h5⟩
  · rw [hb.cell (p := ⟨b, o, none⟩) (block_lt_of_cell h1)]; exact h1
  · rw [hb.cell (p := ⟨b, o + 1, none⟩) (block_lt_of_cell h2)]; exact h2
  · rw [hb.cell (p := ⟨b, o + 2, none⟩) (block_lt_of_cell h3)]; exact h3

/-- v is a slice that holds these drafts. -/
def Drafts (w : World) (v : Value) (l : List Draft) : Prop :=
  ∃ ad c, v = .slice ad l.length c ∧ ∀ i, i < l.length → ∃ b o, ad = some ⟨b, o, none⟩ ∧ DraftAt w b (o + i * 3) (l.getD i default)

theorem Drafts.below {w w' : World} {v : Value} {l : List Draft} (h : Drafts w v l) (hb : RowKit.Below w.heap.size w w') : Drafts w' v l := by
  obtain ⟨ad, c, hv, hc⟩ := h
  refine ⟨ad, c, hv, fun i hi => ?_⟩
  obtain ⟨b, o, ha, hci⟩ := hc i hi
  exact ⟨b, o, ha, hci.below hb⟩

/-- What the drafts say, so many at most. -/
def entriesT (l : List Draft) (most : Nat) : List Ent := (l.take most).map draftE

theorem entries_snoc (l : List Draft) (k : Nat) (h : k < l.length) : entriesT l (k + 1) = entriesT l k ++ [draftE (l.getD k default)] := by
  unfold entriesT
  rw [List.take_succ_eq_append_getElem h, List.map_append]
  simp [List.getD, h]
theorem entriesT_length (l : List Draft) (most : Nat) : (entriesT l most).length ≤ most := by
  unfold entriesT
  rw [List.length_map]
  exact List.length_take_le _ _

set_option maxHeartbeats 1000000 in
set_option maxRecDepth 100000 in
theorem entries_any (l : List Draft) (v : Value) (most : Nat) (w : World) (hv : Drafts w v l) (hm : most ≤ 1000) (_hlen : l.length ≤ 9223372036854775807) :
    Calls Tryd.prog 46 #[v, .int .i64 (most : Nat)] w fun e w' => ∃ v', e = .returned v' ∧ RowE w' v' (entriesT l most) ∧ RowKit.Below w.heap.size w w' := by
  obtain ⟨ad, cp, rfl, hc⟩ := hv
  have HC : Hid (∀ W, RowKit.Below w.heap.size w W → ∀ i, i < l.length → ∃ b o, ad = some ⟨b, o, none⟩ ∧ DraftAt W b (o + i * 3) (l.getD i default)) := Lib.hid fun W hW i hi => by
    obtain ⟨b, o, ha, hE⟩ := hc i hi
    exact ⟨b, o, ha, hE.below hW⟩
  clear hc
  go_enter Tryd.func46, Tryd.ntmps46
  go_wp2
  go_loopw [5, 6] (fun s5 s6 wr => ∃ k : Nat, k ≤ l.length ∧ k ≤ most ∧ s6 = .int .i64 k ∧ wr.ownsRow w.heap.size 136 3 s5 (entriesT l k).length (ents (entriesT l k)) ∧ RowKit.Below w.heap.size w wr) (fun _ s6 _ => most - (intOf s6).toNat)
  case atStart => exact ⟨0, Nat.zero_le _, Nat.zero_le _, rfl, ownsE_nil w _, RowKit.Below.refl _ _⟩
  case round =>
    obtain ⟨k, hk, hkm, rfl, hown, hb⟩ := hrel
    by_cases hlt : k < l.length ∧ k < most
    · obtain ⟨hl1, hl2⟩ := hlt
      obtain ⟨b, o, rfl, hE⟩ := HC.out _ hb k hl1
      have hsn := entries_snoc l k hl1
      have hle := entriesT_length l k
      obtain ⟨d, hd⟩ : ∃ d, l.getD k default = d := ⟨_, rfl⟩
      rw [hd] at hE hsn
      obtain ⟨u, h1, h2, h3, h4, h5⟩ := hE
      have q28 := draft_any d _ wr h4 h5
      obtain ⟨y, hy⟩ : ∃ y, draftE d = y := ⟨_, rfl⟩
      rw [hy] at q28 hsn
      obtain ⟨O, hO⟩ : ∃ O, entriesT l k = O := ⟨_, rfl⟩
      rw [hO] at hsn hown hle
      unfold enc at q28
      have HS := Lib.hid hsn
      have HOW := Lib.hid hown
      have HLT := Lib.hid hown.lt
      have hszr := hb.size
      clear hd hy hsn hO hown h4 h5
      go_wp2_with (first
        | (go_at_call 69; (with_reducible refine q28.mono ?_); rintro e w1 ⟨rfl, hb1⟩; have hsz1 := hb1.size; have HO1 := Lib.hid ((owns_below HOW.out hb1).alloc (.cells #[.string y.word, .int .u32 (y.weight : Int), .bool y.gone] 136)); have HO2 := Lib.hid (ents_single (w := w1) (x := y) (g := w1.heap.size) rfl))
        | (at_builtin; refine wpList_append_ents rfl _ _ rfl rfl w.heap.size _ _ O [y] rfl rfl HO1.out HO2.out (by simp; omega) (by simp; omega) ?_; intro v' w2 o2 gr2))
      exact ⟨⟨k + 1, by omega, by omega, by go_num, by rw [HS.out]; exact o2, (below_alloc' (o := .cells #[.string y.word, .int .u32 (y.weight : Int), .bool y.gone] 136) (Below.next hb hb1)).grown gr2 (by simp; omega) (fun j hj => (HLT.out j hj).1)⟩, by simp [intOf]; omega⟩
    · have he : entriesT l k = entriesT l most := by
        unfold entriesT
        rcases Nat.lt_or_ge k l.length with h | h
        · rw [show k = most by omega]
        · rw [List.take_of_length_le h, List.take_of_length_le (by omega)]
      rw [he] at hown
      have HOW := Lib.hid hown
      have hd : ¬ k < l.length ∨ (k < l.length ∧ ¬ k < most) := by omega
      clear hown he hlt
      rcases hd with h1 | ⟨h1, h2⟩
      all_goals
        go_wp2
        go_ret
        exact ⟨_, rfl, rowE_owns HOW.out, hb⟩

theorem list_any (l : List Draft) (v : Value) (most : Nat) (w : World) (hv : Drafts w v l) (hm : most ≤ 1000) (_hlen : l.length ≤ 9223372036854775807) :
    Calls Tryd.prog 23 #[v, .int .i64 (most : Nat)] w fun e w' => ∃ v', e = .returned v' ∧ RowE w' v' (withT [] (entriesT l most)) ∧ RowKit.Below w.heap.size w w' := by
  have q18 := entries_any l v most w hv hm _hlen
  have hle := entriesT_length l most
  obtain ⟨E, hE⟩ : ∃ E, entriesT l most = E := ⟨_, rfl⟩
  rw [hE] at q18 hle ⊢
  have q25 := fun ve w0 (h : Ents w0 ve E) => refWith_any [] E (.slice none 0 0) ve w0 rfl (ents_nil w0) h (by simp) (by omega)
  have Q25 := Lib.hid q25
  obtain ⟨ad, c, rfl, _⟩ := hv
  clear hE q25
  go_enter Tryd.func23, Tryd.ntmps23
  go_wp2_with (first
    | (go_at_call 46; (with_reducible refine q18.mono ?_); rintro e w1 ⟨v1, rfl, h1, hb1⟩; have q := Q25.out _ _ h1.ents)
    | (go_at_call 45; (with_reducible refine q.mono ?_); rintro e w2 ⟨v2, rfl, h2, hb2⟩))
  go_ret
  exact ⟨_, rfl, h2, Below.next hb1 hb2⟩
end Go.Proofs.YtjiilmiikejnhaaDoor.Ev

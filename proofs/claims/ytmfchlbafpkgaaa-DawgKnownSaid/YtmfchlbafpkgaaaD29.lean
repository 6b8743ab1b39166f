/-
  The first place that keeps a row of entries from being a list: the program's and the document's.
-/
import Derived.Test.YtmfchlbafpkgaaaD24
import Derived.Test.YtmfchlbafpkgaaaD28
import Derived.WalkMore
import Derived.BigQuiet
set_option linter.unusedVariables false
set_option linter.unusedSimpArgs false
namespace Go.Proofs.Ytmfchlbafpkgaaa
open Go.RowKit Go.Sort

theorem less_any (a b : ByteArray) (w : World) : Calls Try.prog 95 #[.string a, .string b] w fun e w' => e = .returned (.bool (lessT a b)) ∧ w = w' := by
  go_enter Try.func95, Try.ntmps95
  go_wp2
  go_ret
  refine ⟨?_, rfl⟩
  unfold lessT
  rw [← bytesLess_less, ByteArray.toList_eq, ByteArray.toList_eq]
  rfl

theorem refCheck_any (a : ByteArray) (w : World) (ha : a.size ≤ 9223372036854775807) : Calls Try.prog 102 #[.string a] w fun e w' => e = .returned (.int .i64 (if wordT a = true then 0 else 7)) ∧ w = w' := by
  have q25 := fun w0 => refIs_any a w0 ha
  obtain ⟨r, hr⟩ : ∃ r, wordT a = r := ⟨_, rfl⟩
  rw [hr] at q25 ⊢
  clear hr
  cases r
  all_goals
    go_enter Try.func102, Try.ntmps102
    go_wp2_with (go_at_call 54; go_must (refine (q25 _).mono ?_); rintro e w1 ⟨rfl, rfl⟩)
    go_ret
    exact ⟨rfl, rfl⟩

/-- What is wrong at a place: 7, 15, or nothing. -/
def badE (l : List Ent) (k : Nat) : Nat := if wordT (ent l k).word = false then 7 else if 0 < k ∧ ltE (ent l (k - 1)) (ent l k) = false then 15 else 0
/-- The first such place, and what is wrong there; or -1 and 0. -/
def checkE (l : List Ent) : Int × Nat :=
  match (List.range l.length).find? fun k => badE l k != 0 with
  | some k => ((k : Int), badE l k)
  | none => (-1, 0)

theorem check_first {l : List Ent} {k r : Nat} (h1 : ∀ j, j < k → badE l j = 0) (hk : k < l.length) (hr : badE l k = r) (h0 : r ≠ 0) : checkE l = ((k : Int), r) := by
  unfold checkE
  have : (List.range l.length).find? (fun k => badE l k != 0) = some k := by
    rw [List.find?_range_eq_some]
    refine ⟨by rw [hr]; simpa using h0, by simpa using hk, fun j hj => by rw [h1 j hj]; rfl⟩
  rw [this]
  show ((k : Int), badE l k) = _
  rw [hr]
theorem check_end {l : List Ent} (h1 : ∀ j, j < l.length → badE l j = 0) : checkE l = (-1, 0) := by
  unfold checkE
  have : (List.range l.length).find? (fun k => badE l k != 0) = none := by
    rw [List.find?_eq_none]
    intro j hj
    rw [h1 j (by simpa using hj)]
    simp
  rw [this]

/-- All its words are short enough to be. -/
def ShortE (l : List Ent) : Prop := ∀ x ∈ l, x.word.size ≤ 9223372036854775807
theorem shortE_at {l : List Ent} (h : ShortE l) (i : Nat) : (ent l i).word.size ≤ 9223372036854775807 := by
  rcases Nat.lt_or_ge i l.length with hi | hi
  · exact h _ (ent_mem hi)
  · have : ent l i = default := by simp [ent, List.getD, hi]
    rw [this]; exact Nat.zero_le _

theorem strs_single {w : World} {x : ByteArray} {g : Nat} (hg : g = w.heap.size) : Strs (w.alloc (.cells #[.string x] 9)) (.slice (some ⟨g, 0, none⟩) 1 1) [x] := by
  subst hg
  refine ⟨_, _, rfl, fun i hi => ⟨_, _, rfl, ?_⟩⟩
  have : i = 0 := by simpa using hi
  subst this
  simp

theorem chk_one (x : ByteArray) (r : Nat) (hr : (if wordT x = true then 0 else 7) = r) (hx : x.size ≤ 9223372036854775807) (W : World) (g : Nat) (hg : g = W.heap.size) :
    Calls Try.prog 51 #[.slice (some ⟨g, 0, none⟩) 1 1] (W.alloc (.cells #[.string x] 9)) fun e w' => e = .returned (.int .i64 (r : Int)) ∧ W.alloc (.cells #[.string x] 9) = w' := by
  refine (check_any [x] _ _ (strs_single hg) (fun s hs => by simp at hs; rw [hs]; exact hx) (by simp)).mono ?_
  rintro e w' ⟨rfl, rfl⟩
  refine ⟨?_, rfl⟩
  rw [← hr]
  unfold checkT
  simp

theorem less_same (a b : ByteArray) (r : Bool) (hr : lessT a b = r) (w : World) : Calls Try.prog 95 #[.string a, .string b] w fun e w' => e = .returned (.bool r) ∧ w' = w := by
  refine (less_any a b w).mono ?_
  rintro e w' ⟨rfl, rfl⟩
  exact ⟨by rw [hr], rfl⟩

set_option maxHeartbeats 1000000 in
set_option maxRecDepth 100000 in
theorem entCheck_any (l : List Ent) (v : Value) (w : World) (hv : Ents w v l) (hs : ShortE l) (hlen : l.length ≤ 1000000) :
    Calls Try.prog 69 #[v] w fun e w' => e = .returned (.tuple #[.int .i64 (checkE l).1, .int .i64 ((checkE l).2 : Nat)]) ∧ RowKit.Below w.heap.size w w' := by
  obtain ⟨ad, cp, rfl, hc⟩ := ents_cell hv
  have HC : Hid (∀ i, i < l.length → ∃ b o, ad = some ⟨b, o, none⟩ ∧ EntAt w b (o + i * 3) (ent l i)) := Lib.hid hc
  clear hc hv
  go_enter Try.func69, Try.ntmps69
  go_wp2
  go_step3
  go_wp2
  go_step3
  go_wp2
  go_loopw [4, 5, 10] (fun s4 s5 s10 wr => ∃ k : Nat, k ≤ l.length ∧ s4 = .int .i64 (-1) ∧ s5 = .int .i64 0 ∧ s10 = .int .i64 k ∧ RowKit.Below w.heap.size w wr ∧ Hid (∀ j, j < k → badE l j = 0)) (fun _ _ s10 _ => l.length - (intOf s10).toNat)
  case atStart => exact ⟨0, Nat.zero_le _, rfl, rfl, rfl, RowKit.Below.refl _ _, Lib.hid fun j hj => by omega⟩
  case round =>
    obtain ⟨k, hk, rfl, rfl, rfl, hb, HI⟩ := hrel
    by_cases hlt : k < l.length
    · obtain ⟨b, o, rfl, hE⟩ := HC.out k hlt
      obtain ⟨h1, h2, h3⟩ := hE.below hb
      have hbad : badE l k = if wordT (ent l k).word = false then 7 else if 0 < k ∧ ltE (ent l (k - 1)) (ent l k) = false then 15 else 0 := rfl
      have hn : b ≠ wr.heap.size := Nat.ne_of_lt (block_lt_of_cell h1)
      have hblt : b < wr.heap.size := block_lt_of_cell h1
      have hblt' : b < wr.heap.size + 1 := by omega
      have hsz := shortE_at hs k
      obtain ⟨y, hy⟩ : ∃ y, ent l k = y := ⟨_, rfl⟩
      rw [hy] at h1 h2 h3 hbad hsz
      cases hw : wordT y.word with
      | false =>
        have q31 := chk_one y.word 7 (by rw [hw]; rfl) hsz (wr.alloc (.cells #[.string y.word, .int .u32 (y.weight : Int), .bool y.gone] 33)) (wr.heap.size + 1) (by simp)
        rw [hw, if_pos rfl] at hbad
        have HF := Lib.hid (check_first HI.out hlt hbad (by omega))
        clear hy hE hw hbad
        go_wp2_with (go_at_call 51; (with_reducible refine q31.mono ?_); rintro e w1 ⟨rfl, rfl⟩)
        (try rw [Exit.noGoto_ret])
        go_ret2
        exact ⟨by rw [HF.out]; rfl, below_alloc' (below_alloc' hb)⟩
      | true =>
        have q31 := chk_one y.word 0 (by rw [hw]; rfl) hsz (wr.alloc (.cells #[.string y.word, .int .u32 (y.weight : Int), .bool y.gone] 33)) (wr.heap.size + 1) (by simp)
        rw [hw, if_neg (by simp)] at hbad
        by_cases hk0 : 0 < k
        · obtain ⟨p, hp⟩ : ∃ p, k - 1 = p := ⟨_, rfl⟩
          have ep : (k : Int) - 1 = (p : Int) := by omega
          have hpl : p < l.length := by omega
          obtain ⟨b', o', he', hE'⟩ := HC.out p hpl
          cases he'
          obtain ⟨h4, h5, h6⟩ := hE'.below hb
          rw [hp] at hbad
          obtain ⟨x, hx⟩ : ∃ x, ent l p = x := ⟨_, rfl⟩
          rw [hx] at h4 h5 h6 hbad
          have hd : decide ((k : Int) > 0) = true := decide_eq_true (by omega)
          have ew : IntKind.i64.wrap (p : Int) = (p : Int) := IntWalk.i64_in _ (by omega)
          cases hl : lessT x.word y.word with
          | true =>
            have q38 := fun w0 => less_same x.word y.word true hl w0
            rw [if_neg (by rintro ⟨_, h⟩; rw [show ltE x y = _ from hl] at h; cases h)] at hbad
            have HB := Lib.hid hbad
            clear hy hE hw hbad hE' hx hl hp
            go_wp2_with (go_at_call 51; (with_reducible refine q31.mono ?_); rintro e w1 ⟨rfl, rfl⟩)
            go_quiet ((go_at_call 95; exact Calls.quiet_of_same (q38 _)))
            have hb2 := below_drewN (below_alloc' (o := .cells #[.string y.word] 9) (below_alloc' (o := .cells #[.string y.word, .int .u32 (y.weight : Int), .bool y.gone] 33) hb)) nq
            go_wp2
            exact ⟨⟨k + 1, by omega, rfl, rfl, by go_num, hb2, Lib.hid fun j hj => by
              rcases Nat.lt_or_ge j k with h | h
              · exact HI.out j h
              · rw [show j = k by omega]; exact HB.out⟩, by simp [intOf]; omega⟩
          | false =>
            have q38 := fun w0 => less_same x.word y.word false hl w0
            rw [if_pos ⟨hk0, hl⟩] at hbad
            have HF := Lib.hid (check_first HI.out hlt hbad (by omega))
            clear hy hE hw hbad hE' hx hl hp
            go_wp2_with (go_at_call 51; (with_reducible refine q31.mono ?_); rintro e w1 ⟨rfl, rfl⟩)
            go_quiet ((go_at_call 95; exact Calls.quiet_of_same (q38 _)))
            have hb2 := below_drewN (below_alloc' (o := .cells #[.string y.word] 9) (below_alloc' (o := .cells #[.string y.word, .int .u32 (y.weight : Int), .bool y.gone] 33) hb)) nq
            go_wp2
            (try rw [Exit.noGoto_ret])
            go_ret2
            exact ⟨by rw [HF.out]; rfl, hb2⟩
        · have hd : decide ((k : Int) > 0) = false := decide_eq_false (by omega)
          rw [if_neg (fun h => hk0 h.1)] at hbad
          have HB := Lib.hid hbad
          clear hy hE hw hbad
          go_wp2_with (go_at_call 51; (with_reducible refine q31.mono ?_); rintro e w1 ⟨rfl, rfl⟩)
          go_quiet (fail)
          have hb2 := below_drewN (below_alloc' (o := .cells #[.string y.word] 9) (below_alloc' (o := .cells #[.string y.word, .int .u32 (y.weight : Int), .bool y.gone] 33) hb)) nq
          go_wp2
          exact ⟨⟨k + 1, by omega, rfl, rfl, by go_num, hb2, Lib.hid fun j hj => by
            rcases Nat.lt_or_ge j k with h | h
            · exact HI.out j h
            · rw [show j = k by omega]; exact HB.out⟩, by simp [intOf]; omega⟩
    · have HF := Lib.hid (check_end (l := l) fun j hj => HI.out j (by omega))
      go_wp2
      (try rw [Exit.noGoto_ret])
      go_ret2
      exact ⟨by rw [HF.out]; rfl, hb⟩

theorem bytesLess_T (a b : ByteArray) : Op.bytesLess a.toList b.toList = lessT a b := by
  rw [bytesLess_less, ByteArray.toList_eq, ByteArray.toList_eq]; rfl

set_option maxHeartbeats 1000000 in
set_option maxRecDepth 100000 in
theorem entRefCheck_any (l : List Ent) (v : Value) (w : World) (hv : Ents w v l) (hs : ShortE l) (hlen : l.length ≤ 1000000) :
    Calls Try.prog 72 #[v] w fun e w' => e = .returned (.tuple #[.int .i64 (checkE l).1, .int .i64 ((checkE l).2 : Nat)]) ∧ RowKit.Below w.heap.size w w' := by
  obtain ⟨ad, cp, rfl, hc⟩ := ents_cell hv
  have HC : Hid (∀ i, i < l.length → ∃ b o, ad = some ⟨b, o, none⟩ ∧ EntAt w b (o + i * 3) (ent l i)) := Lib.hid hc
  clear hc hv
  go_enter Try.func72, Try.ntmps72
  go_wp2
  go_loopw [4] (fun s4 wr => ∃ k : Nat, k ≤ l.length ∧ s4 = .int .i64 k ∧ RowKit.Below w.heap.size w wr ∧ Hid (∀ j, j < k → badE l j = 0)) (fun s4 _ => l.length - (intOf s4).toNat)
  case atStart => exact ⟨0, Nat.zero_le _, rfl, RowKit.Below.refl _ _, Lib.hid fun j hj => by omega⟩
  case round =>
    obtain ⟨k, hk, rfl, hb, HI⟩ := hrel
    by_cases hlt : k < l.length
    · obtain ⟨b, o, rfl, hE⟩ := HC.out k hlt
      obtain ⟨h1, h2, h3⟩ := hE.below hb
      have hbad : badE l k = if wordT (ent l k).word = false then 7 else if 0 < k ∧ ltE (ent l (k - 1)) (ent l k) = false then 15 else 0 := rfl
      have hsz := shortE_at hs k
      obtain ⟨y, hy⟩ : ∃ y, ent l k = y := ⟨_, rfl⟩
      rw [hy] at h1 h2 h3 hbad hsz
      have q33 := fun w0 => refCheck_any y.word w0 hsz
      cases hw : wordT y.word with
      | false =>
        rw [hw] at q33
        rw [hw, if_pos rfl] at hbad
        have HF := Lib.hid (check_first HI.out hlt hbad (by omega))
        clear hy hE hw hbad
        go_wp2_with (go_at_call 102; (with_reducible refine (q33 _).mono ?_); rintro e w1 ⟨rfl, rfl⟩)
        go_ret2
        exact ⟨by rw [HF.out]; rfl, hb⟩
      | true =>
        rw [hw] at q33
        rw [hw, if_neg (by simp)] at hbad
        by_cases hk0 : 0 < k
        · obtain ⟨p, hp⟩ : ∃ p, k - 1 = p := ⟨_, rfl⟩
          have ep : (k : Int) - 1 = (p : Int) := by omega
          have hpl : p < l.length := by omega
          obtain ⟨b', o', he', hE'⟩ := HC.out p hpl
          cases he'
          obtain ⟨h4, h5, h6⟩ := hE'.below hb
          rw [hp] at hbad
          obtain ⟨x, hx⟩ : ∃ x, ent l p = x := ⟨_, rfl⟩
          rw [hx] at h4 h5 h6 hbad
          have hd : decide ((k : Int) > 0) = true := decide_eq_true (by omega)
          have ew : IntKind.i64.wrap (p : Int) = (p : Int) := IntWalk.i64_in _ (by omega)
          have hbl := bytesLess_T x.word y.word
          cases hl : lessT x.word y.word with
          | true =>
            rw [hl] at hbl
            rw [if_neg (by rintro ⟨_, h⟩; rw [show ltE x y = _ from hl] at h; cases h)] at hbad
            have HB := Lib.hid hbad
            clear hy hE hw hbad hE' hx hl hp
            go_wp2_with (go_at_call 102; (with_reducible refine (q33 _).mono ?_); rintro e w1 ⟨rfl, rfl⟩)
            go_quiet (fail)
            have hb2 := below_drewN hb nq
            go_wp2
            exact ⟨⟨k + 1, by omega, by go_num, hb2, Lib.hid fun j hj => by
              rcases Nat.lt_or_ge j k with h | h
              · exact HI.out j h
              · rw [show j = k by omega]; exact HB.out⟩, by simp [intOf]; omega⟩
          | false =>
            rw [hl] at hbl
            rw [if_pos ⟨hk0, hl⟩] at hbad
            have HF := Lib.hid (check_first HI.out hlt hbad (by omega))
            clear hy hE hw hbad hE' hx hl hp
            go_wp2_with (go_at_call 102; (with_reducible refine (q33 _).mono ?_); rintro e w1 ⟨rfl, rfl⟩)
            go_quiet (fail)
            have hb2 := below_drewN hb nq
            go_wp2
            go_ret2
            exact ⟨by rw [HF.out]; rfl, hb2⟩
        · have hd : decide ((k : Int) > 0) = false := decide_eq_false (by omega)
          rw [if_neg (fun h => hk0 h.1)] at hbad
          have HB := Lib.hid hbad
          clear hy hE hw hbad
          go_wp2_with (go_at_call 102; (with_reducible refine (q33 _).mono ?_); rintro e w1 ⟨rfl, rfl⟩)
          go_quiet (fail)
          have hb2 := below_drewN hb nq
          go_wp2
          exact ⟨⟨k + 1, by omega, by go_num, hb2, Lib.hid fun j hj => by
            rcases Nat.lt_or_ge j k with h | h
            · exact HI.out j h
            · rw [show j = k by omega]; exact HB.out⟩, by simp [intOf]; omega⟩
    · have HF := Lib.hid (check_end (l := l) fun j hj => HI.out j (by omega))
      go_wp2
      go_ret2
      exact ⟨by rw [HF.out]; rfl, hb⟩
end Go.Proofs.Ytmfchlbafpkgaaa

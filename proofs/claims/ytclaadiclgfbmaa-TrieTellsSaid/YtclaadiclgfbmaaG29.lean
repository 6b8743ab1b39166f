/-
  TrieUnder: the walk. The law's walk: all entries behind a node, by rising words. What TrieOrder wants in plain words: entries put in any order, sizes, puts that lose nothing.
-/
import Derived.Test.YtclaadiclgfbmaaG28
import Derived.IntWalk
import Derived.Deep.CutBlock
import Derived.Deep.DeepCutAuto
import Derived.Deep.RegionHeldLaw
import Derived.Deep.RegionWith
set_option linter.unusedVariables false
set_option linter.unusedSimpArgs false
namespace Go.Proofs.Ytclaadiclgfbmaa
open Go.RowKit Go.Shelf

/-- The rows that are asked. -/
def beginsOf (s : ByteArray) (L : List Ent) : List ByteArray := [s.extract 0 (min (s.size : Int) 300).toNat, ⟨#[]⟩] ++ (L.take 10).flatMap fun x => [x.word, x.word.extract 0 (x.word.size / 2)]

theorem owns_drew' {w : World} {base : Nat} {e : TypeId} {z : Nat} {v : Value} {n : Nat} {xs : List Value} (h : w.ownsRow base e z v n xs) : w.drew.ownsRow base e z v n xs := h
theorem strs_drew' {w : World} {v : Value} {l : List ByteArray} (h : Strs w v l) : Strs w.drew v l := h

theorem grown_of_below {W W' : World} (h : Below W.heap.size W W') : W.grownBy W' none := ⟨h.os, h.tape, h.output, h.size, fun k hk _ => h.block k hk⟩
theorem owns_below' {w w' : World} {base : Nat} {e : TypeId} {z : Nat} {v : Value} {n : Nat} {xs : List Value} (h : w.ownsRow base e z v n xs) (hb : Below w.heap.size w w') : w'.ownsRow base e z v n xs :=
  h.kept (grown_of_below hb) (by cases Value.ownBlock _ <;> simp)

theorem take_ent (A : List Ent) (i : Nat) (h : i < A.length) : A.take (i + 1) = A.take i ++ [ent A i] := by
  rw [List.take_succ_eq_append_getElem h, ent_lt h]
theorem under_yes {A : List Ent} {i : Nat} (h : i < A.length) (r : List UInt8) (hp : Lib.hasPrefix (ent A i).word.data.toList r = true) : underT (A.take (i + 1)) r = underT (A.take i) r ++ [ent A i] := by
  have e : beginsT r (ent A i) = true := hp
  rw [take_ent A i h]; unfold underT; rw [List.filter_append, List.filter_cons, if_pos e]; rfl
theorem under_no {A : List Ent} {i : Nat} (h : i < A.length) (r : List UInt8) (hp : Lib.hasPrefix (ent A i).word.data.toList r = false) : underT (A.take (i + 1)) r = underT (A.take i) r := by
  have e : beginsT r (ent A i) = false := hp
  rw [take_ent A i h]; unfold underT; rw [List.filter_append, List.filter_cons, if_neg (by rw [e]; simp)]; simp

/-- What stands under a row, as far as i bytes are gone through. -/
def partsE (A : List Ent) (own : List Ent) (ks : List UInt8) (b : ByteArray) (i : Nat) : List Ent := own ++ (ks.take i).flatMap fun x => underT A (b.data.toList ++ [x])
theorem partsE_next (A own : List Ent) (ks : List UInt8) (b : ByteArray) (i : Nat) (h : i < ks.length) : partsE A own ks b (i + 1) = partsE A own ks b i ++ underT A (b.data.toList ++ [ks[i]]) := by
  unfold partsE
  rw [List.take_succ_eq_append_getElem h, List.flatMap_append, List.append_assoc]
  simp
theorem under_length (A : List Ent) (r : List UInt8) : (underT A r).length ≤ A.length := List.length_filter_le ..
theorem partsE_length (A own : List Ent) (ks : List UInt8) (b : ByteArray) (ho : own.length ≤ 1) : ∀ i, (partsE A own ks b i).length ≤ 1 + i * A.length
  | 0 => by unfold partsE; simp; omega
  | i + 1 => by
    by_cases h : i < ks.length
    · rw [partsE_next A own ks b i h, List.length_append]
      have h1 := partsE_length A own ks b ho i
      have h2 := under_length A (b.data.toList ++ [ks[i]])
      rw [Nat.add_mul]; omega
    · have e : partsE A own ks b (i + 1) = partsE A own ks b i := by
        unfold partsE; rw [List.take_of_length_le (by omega), List.take_of_length_le (by omega)]
      rw [e]
      have h1 := partsE_length A own ks b ho i
      rw [Nat.add_mul]; omega

/-- Bytes, at any node or none. -/
theorem bytes_at {w : World} {t : Tr} {p : Option Nat} (h : NodeO (fun _ => True) w t p) (hl : t.keys.length < 50) :
    Calls Try.prog 36 #[nodeV p] w fun e w' => ∃ v, e = .returned v ∧ BRow w' v t.keys ∧ Below w.heap.size w w' := by
  cases p with
  | none =>
    refine (bytes_none w).mono ?_
    rintro e w' ⟨rfl, hb⟩
    have hk : t.keys = [] := by
      rw [h.gone]
      unfold Tr.keys
      rw [List.filter_eq_nil_iff]
      intro b _
      simp [Tr.way, Tr.isNil]
    rw [hk]
    exact ⟨_, rfl, brow_nil _, hb⟩
  | some q =>
    refine (bytes_some h hl).mono ?_
    rintro e w' ⟨v, rfl, ho, hb⟩
    exact ⟨v, rfl, brow_of_owns ho, hb⟩
/-- A row of bytes is none of entries. -/
theorem brow_apart {w : World} {v u : Value} {l : List UInt8} {base n : Nat} {xs : List Value} (h : BRow w v l) (hu : w.ownsRow base 33 3 u n xs) : ∀ g, v.ownBlock = some g → some g ≠ u.ownBlock := by
  intro g hg e
  obtain ⟨cs, fz, h1⟩ := h.mem hg
  rcases hu.2 with ⟨rfl, _⟩ | ⟨g', cap, cur, rfl, _, h2, _⟩
  · cases e
  · cases e
    rw [h1] at h2
    injection h2 with h2
    injection h2 with _ h3
    cases h3
theorem brow_one (W : World) (x : UInt8) : BRow (W.alloc (.cells #[.int .u8 (x.toNat : Int)] 5)) (.slice (some ⟨W.heap.size, 0, none⟩) 1 1) [x] :=
  brow_of_owns (base := W.heap.size) ⟨rfl, .inr ⟨W.heap.size, 1, _, rfl, Nat.le_refl _, heap_alloc_new W _, Nat.le_refl _, by unfold maxLen; omega, rfl, rfl⟩⟩
theorem toList_snoc (b : ByteArray) (x : UInt8) : (b ++ ⟨#[x]⟩ : ByteArray).data.toList = b.data.toList ++ [x] := by simp
theorem parts_all (t : Tr) (b : ByteArray) : underT (t.all []) b.data.toList = partsE (t.all []) (ownT (t.get b.data.toList) b.data.toList) (t.down b.data.toList).keys b (t.down b.data.toList).keys.length := by
  unfold partsE
  rw [List.take_length]
  exact under_parts _

theorem brow_at {w : World} {ad : Option Addr} {n c : Nat} {l : List UInt8} (h : BRow w (.slice ad n c) l) (i : Nat) (hi : i < l.length) : ∃ bk, ad = some ⟨bk, 0, none⟩ ∧ w.cell? ⟨bk, i, none⟩ = some (.int .u8 (l[i].toNat : Int)) := by
  have h' := h
  rcases h with ⟨_, h0⟩ | ⟨g, cap, cs, hv, _⟩
  · rw [h0] at hi; simp at hi
  · injection hv with h1
    subst h1
    exact ⟨g, rfl, (BRow.cells h').2 i _ (by simp [bys, hi])⟩

set_option maxHeartbeats 4000000 in
set_option maxRecDepth 100000 in
theorem trieUnder_walk (l : List Ent) (v : Value) (s : ByteArray) (w : World) (hv : Ents w v l) (hlen : l.length ≤ 9223372036854775807) (hs : ∀ x ∈ l, x.word.size ≤ 9223372036854775807) (hs2 : s.size ≤ 9223372036854775807) :
    Calls Try.prog 5 #[v, .string s] w fun e w' => e = .returned (.bool true) ∧ Below w.heap.size w w' := by
  have q21 := works_any w
  have HV := Lib.hid hv
  have QF := Lib.hid (fun (W : World) (h : Below w.heap.size w W) => few_any l v W (HV.out.below h) hlen hs)
  clear hv
  go_enter Try.func5, Try.ntmps5
  go_upto_block 0 with (first
    | (go_at_call 28; (with_reducible refine Calls.mono q21 ?_); rintro e wk ⟨rfl, hb⟩; have HB := Lib.hid hb; clear hb)
    | (go_at_call 14; (with_reducible refine Calls.mono (QF.out _ HB.out) ?_); rintro e wf ⟨vf, rfl, ho, hb⟩; replace HB := Lib.hid (Below.next HB.out hb); have HN := Lib.hid (new_ex (fewE l) vf wf (ents_of_owns ho) (Nat.le_trans (fewE_length l) (by decide)) (fun x hx => Nat.le_trans (fewE_short l x hx) (by decide))); clear hb ho)
    | (go_at_call 15; (with_reducible refine Calls.mono HN.out ?_); rintro e w1 ⟨T, rfl, hT, hb⟩; replace HB := Lib.hid (Below.next HB.out hb); have HT := Lib.hid hT; have HA := Lib.hid (all_at hT (newT_fit (Nat.le_trans (fewE_length l) (by decide)))); clear hb hT)
    | (go_at_call 22; (with_reducible refine Calls.mono HA.out ?_); rintro e w2 ⟨va, rfl, ho, hb⟩; obtain ⟨ada, ca, rfl, hca, hca2, hEa⟩ := rowE_owns ho; replace HB := Lib.hid (Below.next HB.out hb); have HB2 := Lib.hid hb; have HE := Lib.hid hEa; clear hb ho hEa))
  obtain ⟨A, hA⟩ : ∃ A, A = (newT (fewE l)).all [] := ⟨_, rfl⟩
  have hAl : A.length ≤ 45 := by rw [hA]; exact (newT_fit (Nat.le_trans (fewE_length l) (by decide))).1
  have hAs : ∀ x ∈ A, x.word.size ≤ 255 := by rw [hA]; exact (newT_fit (Nat.le_trans (fewE_length l) (by decide))).2
  rw [← hA] at HE hca ⊢
  have HA' := Lib.hid hA
  obtain ⟨b0, hb0⟩ : ∃ b0, b0 = s.extract 0 (min (s.size : Int) 300).toNat := ⟨_, rfl⟩
  rw [← hb0]
  have START : Hid ((w2.alloc (.cells #[.string b0, .string ⟨#[]⟩] 9)).ownsRow w2.heap.size 9 1 (.slice (some ⟨w2.heap.size, 0, none⟩) 2 2) ([b0, ⟨#[]⟩] : List ByteArray).length (strs [b0, ⟨#[]⟩]) ∧ Below w2.heap.size w2 (w2.alloc (.cells #[.string b0, .string ⟨#[]⟩] 9))) := Lib.hid ⟨owns_two (Nat.le_refl _) rfl, below_alloc _ _⟩
  have HB0 := Lib.hid hb0
  clear hA hb0 HN QF q21
  generalize w2.alloc (.cells #[.string b0, .string ⟨#[]⟩] 9) = w3 at START ⊢
  obtain ⟨f, hf⟩ : ∃ f : Ent → List ByteArray, f = fun x => [x.word, x.word.extract 0 (x.word.size / 2)] := ⟨_, rfl⟩
  have HF := Lib.hid hf
  clear hf
  go_cut [7, 8] from 33 to 63 (fun s7 s8 wx => ∃ (z : Value) (X : List ByteArray), s8 = z ∧ X.length ≤ 100 ∧ (∀ x ∈ X, x.size ≤ 300) ∧ Hid (wx.ownsRow w2.heap.size 9 1 s7 X.length (strs X) ∧ Below w2.heap.size w2 wx))
  case first =>
    go_wp2_with fail
    go_loopw [7, 8] (fun s7 s8 wr => ∃ (k : Nat) (X : List ByteArray), k ≤ A.length ∧ k ≤ 10 ∧ s8 = .int .i64 k ∧ X.length = 2 + 2 * k ∧ Hid (∀ x ∈ X, x.size ≤ 300) ∧ Hid (wr.ownsRow w2.heap.size 9 1 s7 X.length (strs X) ∧ Below w2.heap.size w2 wr)) (fun _ s8 _ => A.length - (intOf s8).toNat)
    case atStart => exact ⟨0, [b0, ⟨#[]⟩], Nat.zero_le _, Nat.zero_le _, rfl, rfl, Lib.hid (fun x hx => by
      simp only [List.mem_cons, List.not_mem_nil, or_false] at hx
      rcases hx with rfl | rfl
      · rw [HB0.out, ByteArray.size_extract]; omega
      · decide), START⟩
    case round =>
      obtain ⟨k, X, hk, hk10, rfl, hXl0, HXS, HI⟩ := hrel
      have HXL := Lib.hid hXl0
      have hXlb : X.length ≤ 100 := by omega
      clear hXl0
      by_cases hlt : k < A.length
      · by_cases hl10 : k < 10
        · have e10 : decide ((k : Int) < 10) = true := decide_eq_true (by omega)
          obtain ⟨ad', c', hv', hx⟩ := HE.out
          cases hv'
          obtain ⟨b, o, rfl, hE1⟩ := hx k hlt
          obtain ⟨y, hy⟩ : ∃ y, y = ent A k := ⟨_, rfl⟩
          rw [← hy] at hE1
          have hys : y.word.size ≤ 255 := by rw [hy]; exact hAs _ (ent_mem hlt)
          have CW : Hid (∀ W, Below w2.heap.size w2 W → W.cell? ⟨b, o + k * 3, none⟩ = some (.string y.word)) := Lib.hid fun W h => (hE1.below h).1
          have HY := Lib.hid hy
          clear hx hy hE1
          have c0 := CW.out _ HI.out.2
          have hbr := HI.out.2
          obtain ⟨hf2, hh2⟩ : ∃ h2 : Nat, h2 = y.word.size / 2 := ⟨_, rfl⟩
          have e0 : ((y.word.size : Int)).tdiv 2 = (hf2 : Int) := by rw [hh2]; rfl
          have hle2 : hf2 ≤ y.word.size := by omega
          have e1 : ((y.word.size : Int)) / 2 = (hf2 : Int) := by omega
          have w1' : IntKind.i64.wrap (((y.word.size : Int)).tdiv 2) = (hf2 : Int) := by rw [e0]; exact IntWalk.i64_in _ (by omega)
          have w2' : IntKind.i64.wrap (((y.word.size : Int)) / 2) = (hf2 : Int) := by rw [e1]; exact IntWalk.i64_in _ (by omega)
          have w3' : IntKind.i64.wrap (hf2 : Int) = (hf2 : Int) := IntWalk.i64_in _ (by omega)
          have hle3 : (hf2 : Int) ≤ (y.word.size : Int) := by omega
          have hsz2 : (y.word.size : Int) ≤ 255 := by omega
          have HH2 := Lib.hid hh2
          clear hh2
          obtain ⟨adn, cn, rfl⟩ : ∃ ad c, u7 = .slice ad X.length c := by
            rcases HI.out.1.2 with ⟨rfl, h0⟩ | ⟨g, cap, cur, rfl, _⟩
            · exact ⟨none, 0, by rw [h0]⟩
            · exact ⟨_, _, rfl⟩
          have hownX := HI.out.1
          have hlen2 : X.length + 2 ≤ 1000000 := by omega
          have HCW : Hid (∀ W, Below w2.heap.size w2 W → W.cell? ⟨b, o + k * 3, none⟩ = some (.string y.word) ∧ Below w2.heap.size w2 W) := Lib.hid fun W h => ⟨CW.out _ h, h⟩
          go_wp2
          go_region_held_law (fun W => W.cell? ⟨b, o + k * 3, none⟩ = some (.string y.word) ∧ Below w2.heap.size w2 W)
            ((refine HCW.out _ ?_; repeat (first | (with_reducible assumption) | (with_reducible apply below_drew') | (with_reducible apply below_alloc'))))
            ((refine step_append_strs (w0 := w2) rfl (.tmp 43) (.tmp 62) rfl rfl (.slice adn X.length cn) (.slice (some ⟨_, 0, none⟩) 2 2) X [y.word, y.word.extract 0 hf2] rfl rfl (by repeat (first | (with_reducible assumption) | (with_reducible apply below_drew') | (with_reducible apply below_alloc'))) (by repeat (first | (with_reducible assumption) | (with_reducible apply owns_drew') | (with_reducible apply World.ownsRow.alloc))) (by repeat (first | (with_reducible exact strs_two rfl) | (with_reducible apply strs_drew'))) (by simpa using hlen2) ?_; intro v' w' o1 g1 b1))
          all_goals (simp only [Act.put, List.getElem_toArray, List.getElem_cons_succ, List.getElem_cons_zero, List.setIfInBounds_toArray, List.set_cons_zero, List.set_cons_succ])
          all_goals go_wp2_with fail
          all_goals
            have HXN : Hid (∀ x ∈ X ++ [y.word, y.word.extract 0 hf2], x.size ≤ 300) := Lib.hid (fun x hx => by
              rcases List.mem_append.1 hx with hx | hx
              · exact HXS.out x hx
              · simp only [List.mem_cons, List.not_mem_nil, or_false] at hx
                rcases hx with rfl | rfl
                · omega
                · rw [ByteArray.size_extract]; omega)
            exact ⟨⟨k + 1, X ++ [y.word, y.word.extract 0 hf2], by omega, by omega, by go_num, by rw [List.length_append, HXL.out]; simp; omega, HXN, Lib.hid ⟨o1, b1⟩⟩, by simp [intOf]; omega⟩
        · have e10 : ¬ (k : Int) < 10 := by omega
          go_wp2_with fail
          go_meet
          exact ⟨_, X, rfl, hXlb, HXS.out, HI⟩
      · go_wp2_with fail
        go_meet
        exact ⟨_, X, rfl, hXlb, HXS.out, HI⟩
  case rest =>
  obtain ⟨z, X, rfl, hXlen, hXs, HW⟩ := hcut
  obtain ⟨w4, h⟩ : ∃ w4, w4 = wc := ⟨_, rfl⟩
  subst h
  obtain ⟨adx, cx, hvx, hxc⟩ := strs_of_owns HW.out.1
  subst hvx
  have HXC : Hid (∀ W, Below w4.heap.size w4 W → ∀ i, i < X.length → ∃ b o, adx = some ⟨b, o, none⟩ ∧ W.cell? ⟨b, o + i, none⟩ = some (.string (X.getD i ⟨#[]⟩))) := Lib.hid fun W h i hi => by
    obtain ⟨b, o, h1, h2⟩ := hxc i hi
    exact ⟨b, o, h1, (h.cell (p := ⟨b, o + i, none⟩) (block_lt_of_cell h2)).trans h2⟩
  have HXS := Lib.hid hXs
  have HEA : Hid (∀ W, Below w4.heap.size w4 W → ∀ i, i < A.length → ∃ b o, ada = some ⟨b, o, none⟩ ∧ EntAt W b (o + i * 3) (ent A i)) := Lib.hid fun W h i hi => by
    obtain ⟨ad', c', hv', hx⟩ := HE.out
    cases hv'
    obtain ⟨b, o, h1, h2⟩ := hx i hi
    exact ⟨b, o, h1, (h2.below HW.out.2).below h⟩
  obtain ⟨t, ht⟩ : ∃ t, t = newT (fewE l) := ⟨_, rfl⟩
  have hfit : Fit t := by rw [ht]; exact newT_fit (Nat.le_trans (fewE_length l) (by decide))
  have hgood : t.Good := by rw [ht]; exact newT_good _
  have hAt : A = t.all [] := by rw [ht]; exact HA'.out
  have HTT : Hid (∀ W, Below w4.heap.size w4 W → TrieAt W T (fun k => k ≠ T) t) := Lib.hid fun W h => by rw [ht]; exact ((HT.out.below HB2.out).below HW.out.2).below h
  have HWB : Hid (Below w.heap.size w w4) := Lib.hid (Below.next HB.out HW.out.2)
  have QN : Hid (∀ (b : ByteArray) W, b.size ≤ 300 → Below w4.heap.size w4 W → Calls Try.prog 35 #[.pointer (some ⟨T, 0, none⟩), .string b] W fun e w' => ∃ p, e = .returned (.tuple #[nodeV p, .bool (!(underT A b.data.toList).isEmpty || b.data.toList.isEmpty)]) ∧ NodeO (fun _ => True) w' (t.root.down b.data.toList) p ∧ Below W.heap.size W w') := Lib.hid fun b W hb h => by
    have := node_any (HTT.out W h) b (by omega)
    rw [root_is hgood, ← hAt] at this
    exact this
  have QG : Hid (∀ (b : ByteArray) W, b.size ≤ 300 → Below w4.heap.size w4 W → Calls Try.prog 23 #[.pointer (some ⟨T, 0, none⟩), .string b] W fun e w' => e = .returned (gotV t b) ∧ Below W.heap.size W w') := Lib.hid fun b W hb h => get_any t T _ b W (HTT.out W h) (by omega)
  have QU : Hid (∀ (b : ByteArray) W, b.size ≤ 1000 → Below w4.heap.size w4 W → Calls Try.prog 25 #[.pointer (some ⟨T, 0, none⟩), .string b] W fun e w' => ∃ ad c, e = .returned (.slice ad (underT A b.data.toList).length c) ∧ Ents w' (.slice ad (underT A b.data.toList).length c) (underT A b.data.toList) ∧ Below W.heap.size W w') := Lib.hid fun b W hb h => by
    refine (under_at (HTT.out W h) hfit b hb).mono ?_
    rintro e w' ⟨v, rfl, ho, hb⟩
    rw [← hAt] at ho
    obtain ⟨ad, c, rfl, h3⟩ := ents_of_owns ho
    exact ⟨ad, c, rfl, ⟨ad, c, rfl, h3⟩, hb⟩
  have HAt := Lib.hid hAt
  have HFit := Lib.hid hfit
  have HGood := Lib.hid hgood
  clear hXs hxc ht hfit hgood hAt HE HA' HW HB0 HF START HV HB HB2 HT HA HTT
  go_wp2_with fail
  go_loopw [9] (fun s9 wr => ∃ k : Nat, k ≤ X.length ∧ s9 = .int .i64 k ∧ Hid (Below w4.heap.size w4 wr)) (fun s9 _ => X.length - (intOf s9).toNat)
  case atStart => exact ⟨0, Nat.zero_le _, rfl, Lib.hid (Below.refl _ _)⟩
  case round =>
    obtain ⟨k, hk, rfl, HK⟩ := hrel
    obtain ⟨wz, h⟩ : ∃ wz, wz = wr := ⟨_, rfl⟩
    subst h
    by_cases hlt : k < X.length
    · obtain ⟨bx, ox, rfl, cxb⟩ := HXC.out _ HK.out k hlt
      obtain ⟨bs, hbs⟩ : ∃ bs, bs = X.getD k ⟨#[]⟩ := ⟨_, rfl⟩
      have hbz : bs.size ≤ 300 := by
        rw [hbs]
        have : X.getD k ⟨#[]⟩ = X[k] := by simp [List.getD, hlt]
        rw [this]; exact HXS.out _ (List.getElem_mem hlt)
      rw [← hbs] at cxb
      clear hbs
      go_wp2_with fail
      go_loopw [11, 13] (fun s11 s13 wq => ∃ i : Nat, i ≤ A.length ∧ s13 = .int .i64 i ∧ Hid (wq.ownsRow wz.heap.size 33 3 s11 (underT (A.take i) bs.data.toList).length (ents (underT (A.take i) bs.data.toList)) ∧ Below wz.heap.size wz wq)) (fun _ s13 _ => A.length - (intOf s13).toNat)
      case atStart => exact ⟨0, Nat.zero_le _, rfl, Lib.hid ⟨ownsE_nil _ _, Below.refl _ _⟩⟩
      case round =>
        obtain ⟨i, hi, rfl, HI⟩ := hrel
        by_cases hlti : i < A.length
        · obtain ⟨b, o, rfl, hE⟩ := HEA.out _ (Below.next HK.out HI.out.2) i hlti
          obtain ⟨h1, h2, h3⟩ := hE
          have hys := hAs _ (ent_mem hlti)
          cases hp : Lib.hasPrefix (ent A i).word.data.toList bs.data.toList with
          | true =>
            have HU := Lib.hid (under_yes hlti bs.data.toList hp)
            have q33 := fun (W : World) => Try.strings_HasPrefix (ent A i).word bs W
            rw [hp] at q33
            obtain ⟨y, hy⟩ : ∃ y, ent A i = y := ⟨_, rfl⟩
            rw [hy] at h1 h2 h3 hys hp HU q33
            obtain ⟨O, hO⟩ : ∃ O, underT (A.take i) bs.data.toList = O := ⟨_, rfl⟩
            rw [hO] at HI HU
            have hOl : O.length ≤ 45 := by rw [← hO]; exact Nat.le_trans (under_length _ _) (by rw [List.length_take]; omega)
            have HO1 := Lib.hid (HI.out.1.alloc (.cells #[.string y.word, .int .u32 (y.weight : Int), .bool y.gone] 33))
            have HO2 := Lib.hid (ents_single (w := wr) (x := y) (g := wr.heap.size) rfl)
            have hsz := HI.out.2.size
            clear hy hO hp
            go_wp2_with (first
              | (go_at_call 34; (with_reducible refine Calls.mono (q33 _) ?_); rintro e w6 ⟨rfl, rfl⟩)
              | (at_builtin; refine wpList_append_ents rfl _ _ rfl rfl wz.heap.size _ _ O [y] rfl rfl HO1.out HO2.out (by simp; omega) (by simp; omega) ?_; intro v' w' o1 g1))
            exact ⟨⟨i + 1, by omega, by go_num, Lib.hid ⟨by rw [HU.out]; exact o1, (below_alloc' HI.out.2).grown g1 (by simp; omega) (fun j hj => (HI.out.1.lt j hj).1)⟩⟩, by simp [intOf]; omega⟩
          | false =>
            have HU := Lib.hid (under_no hlti bs.data.toList hp)
            have q33 := fun (W : World) => Try.strings_HasPrefix (ent A i).word bs W
            rw [hp] at q33
            clear hp
            go_wp2_with (go_at_call 34; (with_reducible refine Calls.mono (q33 _) ?_); rintro e w6 ⟨rfl, rfl⟩)
            exact ⟨⟨i + 1, by omega, by go_num, Lib.hid ⟨by rw [HU.out]; exact HI.out.1, HI.out.2⟩⟩, by simp [intOf]; omega⟩
        · obtain rfl : i = A.length := by omega
          obtain ⟨w5, h⟩ : ∃ w5, w5 = wr := ⟨_, rfl⟩
          subst h
          go_upto_region 20 with fail
          rw [List.take_length] at HI
          have hH5 : Below w4.heap.size w4 w5 := Below.next HK.out HI.out.2
          have H5 := Lib.hid hH5
          have q34 := QN.out bs
          have q19 := QG.out bs
          have h5z : wz.heap.size ≤ w5.heap.size := HI.out.2.size
          clear hH5
          obtain ⟨ib, hib⟩ : ∃ ib, ib = (!(underT A bs.data.toList).isEmpty || bs.data.toList.isEmpty) := ⟨_, rfl⟩
          rw [← hib] at q34
          have HIB := Lib.hid hib
          clear hib
          have HQN := Lib.hid (q34 w5 hbz H5.out)
          have HQG := Lib.hid (fun W h => q19 W hbz (Below.next H5.out h))
          have hkl : (t.root.down bs.data.toList).keys.length < 50 := by
            rw [root_keys_down]
            have := HFit.out.slim HGood.out bs.data.toList
            exact this.1
          have QB : Hid (∀ (W : World) (p : Option Nat), NodeO (fun _ => True) W (t.root.down bs.data.toList) p → Calls Try.prog 36 #[.agg #[ptrV p]] W fun e w' => ∃ v, e = .returned v ∧ BRow w' v (t.down bs.data.toList).keys ∧ Below W.heap.size W w') := Lib.hid fun W p h => by
            have := bytes_at h hkl
            rw [root_keys_down] at this
            exact this
          have HKL : Hid ((t.down bs.data.toList).keys.length < 50) := Lib.hid (by rw [← root_keys_down]; exact hkl)
          clear q34 q19 hkl
          go_cut [14, 15] from 94 to 99 (fun s14 s15 wx => ∃ (B : Nat) (p : Option Nat), s14 = .pointer (some ⟨B, 0, none⟩) ∧ s15 = .bool ib ∧ Hid (Boxed wx B 49 (ptrV p) ∧ NodeO (fun _ => True) wx (t.root.down bs.data.toList) p ∧ Below w5.heap.size w5 wx))
          case first =>
            cases hnil : (t.root.down bs.data.toList).isNil with
            | true =>
              have QN0 : Hid (Calls Try.prog 35 #[.pointer (some ⟨T, 0, none⟩), .string bs] w5 fun e w' => e = .returned (.tuple #[.agg #[.pointer none], .bool ib]) ∧ NodeO (fun _ => True) w' (t.root.down bs.data.toList) none ∧ Below w5.heap.size w5 w') := Lib.hid (by
                refine HQN.out.mono ?_
                rintro e w' ⟨p, rfl, h1, h2⟩
                have h3 := h1.isSome
                rw [hnil] at h3
                cases p with
                | none => exact ⟨rfl, h1, h2⟩
                | some q => cases h3)
              clear hnil HQN
              go_wp2_with (go_at_call 35; (with_reducible refine Calls.mono QN0.out ?_); rintro e w6 ⟨rfl, hN, hb6⟩; have HN := Lib.hid hN; have H6 := Lib.hid hb6; clear hb6 hN)
              go_meet
              exact ⟨_, none, rfl, rfl, Lib.hid ⟨Boxed.new w6 49 _, HN.out.below (below_alloc _ _), below_alloc' H6.out⟩⟩
            | false =>
              have QN1 : Hid (Calls Try.prog 35 #[.pointer (some ⟨T, 0, none⟩), .string bs] w5 fun e w' => ∃ q, e = .returned (.tuple #[.agg #[.pointer (some ⟨q, 0, none⟩)], .bool ib]) ∧ NodeO (fun _ => True) w' (t.root.down bs.data.toList) (some q) ∧ Below w5.heap.size w5 w') := Lib.hid (by
                refine HQN.out.mono ?_
                rintro e w' ⟨p, rfl, h1, h2⟩
                have h3 := h1.isSome
                rw [hnil] at h3
                cases p with
                | none => cases h3
                | some q => exact ⟨q, rfl, h1, h2⟩)
              clear hnil HQN
              go_wp2_with (go_at_call 35; (with_reducible refine Calls.mono QN1.out ?_); rintro e w6 ⟨q, rfl, hN, hb6⟩; have HN := Lib.hid hN; have H6 := Lib.hid hb6; clear hb6 hN)
              go_meet
              exact ⟨_, some q, rfl, rfl, Lib.hid ⟨Boxed.new w6 49 _, HN.out.below (below_alloc _ _), below_alloc' H6.out⟩⟩
          case rest =>
          obtain ⟨B14, p, rfl, rfl, HP⟩ := hcut
          have HQG' := Lib.hid (HQG.out _ HP.out.2.2)
          unfold gotV at HQG'
          obtain ⟨gE, hgE⟩ : ∃ gE, gE = gotE t bs := ⟨_, rfl⟩
          obtain ⟨gI, hgI⟩ : ∃ gI, gI = (t.get bs.data.toList).isSome := ⟨_, rfl⟩
          have HOG : Hid (ownT (t.get bs.data.toList) bs.data.toList = if gI = true then [gE] else []) := Lib.hid (by rw [own_get, hgE, hgI])
          rw [← hgE, ← hgI] at HQG'
          obtain ⟨OW, hOW⟩ : ∃ OW, OW = ownT (t.get bs.data.toList) bs.data.toList := ⟨_, rfl⟩
          rw [← hOW] at HOG
          have HOW := Lib.hid hOW
          clear hgE hgI hOW HQN HQG
          obtain ⟨w6, h⟩ : ∃ w6, w6 = wc := ⟨_, rfl⟩
          subst h
          go_upto_if 106 with (go_at_call 23; (with_reducible refine Calls.mono HQG'.out ?_); rintro e w7 ⟨rfl, hb7⟩; have H7 := Lib.hid hb7; clear hb7)
          have hz6 : w5.heap.size ≤ w6.heap.size := HP.out.2.2.size
          have hz7 : w6.heap.size ≤ w7.heap.size := H7.out.size
          go_cut [12] from 107 to 110 (fun s12 wx => Hid (wx.ownsRow w5.heap.size 33 3 s12 OW.length (ents OW) ∧ Below w7.heap.size w7 wx))
          case first =>
            cases gI with
            | true =>
              have HO : Hid (OW = [gE]) := Lib.hid (by rw [HOG.out]; rfl)
              go_wp2_with (at_builtin; refine wpList_append_ents rfl _ _ rfl rfl w5.heap.size _ _ [] [gE] rfl rfl (ownsE_nil _ _) (ents_single (w := w7.alloc (.cells #[.string gE.word, .int .u32 (gE.weight : Int), .bool gE.gone] 33)) (x := gE) (g := w7.heap.size + 1) (by simp)) (by simp) (by simp; omega) ?_; intro v' w' o1 g1)
              go_meet
              exact Lib.hid ⟨by rw [HO.out]; exact o1, (below_alloc' (below_alloc _ _)).grown g1 (by simp; omega) (fun j hj => by cases hj)⟩
            | false =>
              have HO : Hid (OW = []) := Lib.hid (by rw [HOG.out]; rfl)
              go_wp2_with fail
              go_meet
              exact Lib.hid ⟨by rw [HO.out]; exact ownsE_nil _ _, below_alloc _ _⟩
          case rest =>
          obtain ⟨w8, h⟩ : ∃ w8, w8 = wc := ⟨_, rfl⟩
          subst h
          have c14 := (boxed_below HP.out.1 (Below.next H7.out hcut.out.2)).cell
          have HB8 := Lib.hid (QB.out w8 p (HP.out.2.1.below (Below.next H7.out hcut.out.2)))
          have H58 : Hid (Below w5.heap.size w5 w8) := Lib.hid (Below.next HP.out.2.2 (Below.next H7.out hcut.out.2))
          have HS12 := Lib.hid hcut.out.1
          clear hcut QB
          go_wp2_with (go_at_call 36; (with_reducible refine Calls.mono HB8.out ?_); rintro e w9 ⟨v8, rfl, hB8, hb8⟩; obtain ⟨adk, ck, rfl, hck1, hck2⟩ := hB8.shape; have H9 := Lib.hid hb8; have HCK := Lib.hid hB8; clear hb8 hB8 hck1 hck2)
          have HPA : Hid (underT A bs.data.toList = partsE A OW (t.down bs.data.toList).keys bs (t.down bs.data.toList).keys.length) := Lib.hid (by rw [HAt.out, HOW.out]; exact parts_all t bs)
          have HPL : Hid (∀ i, (partsE A OW (t.down bs.data.toList).keys bs i).length ≤ 1 + i * A.length) := Lib.hid (partsE_length A OW _ bs (by rw [HOW.out]; unfold ownT; split <;> simp))
          obtain ⟨ks, hks⟩ : ∃ ks, ks = (t.down bs.data.toList).keys := ⟨_, rfl⟩
          rw [← hks] at HPA HPL HCK HKL
          have hkl : ks.length < 50 := HKL.out
          obtain ⟨adw, cw, hvw, hxw⟩ := ents_of_owns HI.out.1
          subst hvw
          have HW5 : Hid (Ents w5 (.slice adw (underT A bs.data.toList).length cw) (underT A bs.data.toList)) := Lib.hid ⟨adw, cw, rfl, hxw⟩
          have H59 : Hid (Below w5.heap.size w5 w9) := Lib.hid (Below.next H58.out H9.out)
          have HS0 := Lib.hid (owns_below' HS12.out H9.out)
          rw [← hks]
          clear hks hxw HI HS12 HP HOG HOW HQG' H7
          go_loopw [12, 19] (fun s12 s19 wr => ∃ i : Nat, i ≤ ks.length ∧ s19 = .int .i64 i ∧ Hid (wr.ownsRow w5.heap.size 33 3 s12 (partsE A OW ks bs i).length (ents (partsE A OW ks bs i)) ∧ Below w5.heap.size w5 wr ∧ BRow wr (.slice adk ks.length ck) ks)) (fun _ s19 _ => ks.length - (intOf s19).toNat)
          case atStart => exact ⟨0, Nat.zero_le _, rfl, Lib.hid ⟨by
            have e : partsE A OW ks bs 0 = OW := by unfold partsE; simp
            rw [e]; exact HS0.out, H59.out, HCK.out⟩⟩
          case round =>
            obtain ⟨i, hi, rfl, HJ⟩ := hrel
            by_cases hlti : i < ks.length
            · have HPN := Lib.hid (partsE_next A OW ks bs i hlti)
              have hpl := HPL.out i
              have hpl2 : i * A.length ≤ 50 * 45 := Nat.mul_le_mul (by omega) hAl
              obtain ⟨x, hx⟩ : ∃ x, x = ks[i] := ⟨_, rfl⟩
              rw [← hx] at HPN
              obtain ⟨bk, rfl, ckx⟩ := brow_at HJ.out.2.2 i hlti
              rw [← hx] at ckx
              have hcv := conv_str (brow_one wr x)
              obtain ⟨P, hP⟩ : ∃ P, P = partsE A OW ks bs i := ⟨_, rfl⟩
              rw [← hP] at HJ HPN hpl
              have QUx := QU.out (bs ++ ⟨#[x]⟩)
              rw [toList_snoc] at QUx
              have hsx : (bs ++ ⟨#[x]⟩ : ByteArray).size ≤ 1000 := by rw [ByteArray.size_append]; have : (⟨#[x]⟩ : ByteArray).size = 1 := rfl; omega
              have hux := under_length A (bs.data.toList ++ [x])
              have HQU := Lib.hid (fun W h => QUx W hsx (Below.next H5.out h))
              have hJz := HJ.out.2.1.size
              have hov : ¬ 9223372036854775807 < (bs.size : Int) + 1 := by omega
              have hov' : ¬ 9223372036854775807 < bs.size + 1 := by omega
              have HOWN := Lib.hid (HJ.out.1.alloc (.cells #[.int .u8 (x.toNat : Int)] 5))
              clear QUx hsx hx hP
              go_wp2_with (first
                | (go_at_call 25; (with_reducible refine Calls.mono (HQU.out _ (below_alloc' HJ.out.2.1)) ?_); rintro e w6' ⟨ad6, c6, rfl, hE6, hb6⟩; have HE6 := Lib.hid hE6; have H6 := Lib.hid hb6; have hz6' : wr.heap.size < w6'.heap.size := (by have := hb6.size; simp at this; omega); clear hE6 hb6)
                | (at_builtin; refine wpList_append_ents rfl _ _ rfl rfl w5.heap.size _ _ P _ rfl rfl (owns_below' HOWN.out H6.out) HE6.out (by omega) (by omega) ?_; intro v' w' o1 g1))
              exact ⟨⟨i + 1, by omega, by go_num, Lib.hid ⟨by rw [HPN.out]; exact o1, (Below.next (below_alloc' HJ.out.2.1) H6.out).grown g1 (by omega) (fun j hj => (HOWN.out.lt j hj).1), ((HJ.out.2.2.below (below_alloc _ _)).below H6.out).kept g1 (brow_apart ((HJ.out.2.2.below (below_alloc _ _)).below H6.out) (owns_below' HOWN.out H6.out))⟩⟩, by simp [intOf]; omega⟩
            · obtain rfl : i = ks.length := by omega
              have HQU := Lib.hid (fun W h => QU.out bs W (by omega) (Below.next H5.out h))
              have hu12 := ents_of_owns HJ.out.1
              rw [← HPA.out] at hu12
              obtain ⟨adq, cq, hvq, hxq⟩ := hu12
              subst hvq
              have HE2 : Hid (Ents wr (.slice adq (underT A bs.data.toList).length cq) (underT A bs.data.toList)) := Lib.hid ⟨adq, cq, rfl, hxq⟩
              have HE1 := Lib.hid (HW5.out.below HJ.out.2.1)
              have HJb := Lib.hid HJ.out.2.1
              have hul : (underT A bs.data.toList).length ≤ 1000000 := Nat.le_trans (under_length _ _) (by omega)
              obtain ⟨U, hU⟩ : ∃ U, U = underT A bs.data.toList := ⟨_, rfl⟩
              rw [← hU] at HQU HE2 HE1 hul HIB
              have HUL := Lib.hid hul
              rw [← hU]
              have H5' := Lib.hid (fun W (h : Below wr.heap.size wr W) => Below.next H5.out (Below.next HJb.out h))
              have SM : Hid (∀ (v1 v2 : Value) W, Ents W v1 U → Ents W v2 U → Calls Try.prog 21 #[v1, v2] W fun e w' => e = .returned (.bool true) ∧ Below W.heap.size W w') := Lib.hid fun v1 v2 W h1 h2 => same_true U v1 v2 W h1 h2 hul
              clear hxq hU HJ HPA HPL hul HW5
              by_cases h0 : 0 < U.length
              · have hi : ib = true := by
                  rw [HIB.out]
                  cases U with
                  | nil => simp at h0
                  | cons _ _ => rfl
                subst hi
                have d0 : decide (0 < U.length) = true := decide_eq_true h0
                have d1 : decide ((0 : Int) < (U.length : Int)) = true := decide_eq_true (by omega)
                go_wp2_with (first
                  | (go_at_call 25; (with_reducible refine Calls.mono (HQU.out _ HJb.out) ?_); rintro e wa ⟨ada', ca', rfl, hEa, hba⟩; have HEa := Lib.hid hEa; have HBa := Lib.hid hba; clear hEa hba)
                  | (go_at_call 21; (with_reducible refine Calls.mono (SM.out _ _ _ HEa.out (HE1.out.below HBa.out)) ?_); rintro e wb ⟨rfl, hbb⟩; have HBb := Lib.hid (Below.next HBa.out hbb); clear hbb)
                  | (go_at_call 21; (with_reducible refine Calls.mono (SM.out _ _ _ (HE2.out.below HBb.out) (HE1.out.below HBb.out)) ?_); rintro e we ⟨rfl, hbe⟩; have HBe := Lib.hid (Below.next HBb.out hbe); clear hbe))
                exact ⟨⟨k + 1, by omega, by go_num, Lib.hid (Below.next H5.out (Below.next HJb.out HBe.out))⟩, by simp [intOf]; omega⟩
              · have hn0 : U.length = 0 := by omega
                have hUn : U = [] := List.length_eq_zero_iff.1 hn0
                have d0 : decide (0 < U.length) = false := decide_eq_false h0
                have d1 : decide ((0 : Int) < (U.length : Int)) = false := decide_eq_false (by omega)
                have HUN := Lib.hid hUn
                clear hn0 hUn
                by_cases hbe : bs = ⟨#[]⟩
                · subst hbe
                  have hi : ib = true := by rw [HIB.out, HUN.out]; rfl
                  subst hi
                  go_wp2_with (first
                    | (go_at_call 25; (with_reducible refine Calls.mono (HQU.out _ HJb.out) ?_); rintro e wa ⟨ada', ca', rfl, hEa, hba⟩; have HEa := Lib.hid hEa; have HBa := Lib.hid hba; clear hEa hba)
                    | (go_at_call 21; (with_reducible refine Calls.mono (SM.out _ _ _ HEa.out (HE1.out.below HBa.out)) ?_); rintro e wb ⟨rfl, hbb⟩; have HBb := Lib.hid (Below.next HBa.out hbb); clear hbb)
                    | (go_at_call 21; (with_reducible refine Calls.mono (SM.out _ _ _ (HE2.out.below HBb.out) (HE1.out.below HBb.out)) ?_); rintro e we ⟨rfl, hbe⟩; have HBe := Lib.hid (Below.next HBb.out hbe); clear hbe))
                  exact ⟨⟨k + 1, by omega, by go_num, Lib.hid (Below.next H5.out (Below.next HJb.out HBe.out))⟩, by simp [intOf]; omega⟩
                · have hi : ib = false := by
                    rw [HIB.out, HUN.out]
                    have : bs.data.toList ≠ [] := fun h => hbe (by cases bs; simp at h; rw [h])
                    simp only [List.isEmpty_nil, Bool.not_true, Bool.false_or, List.isEmpty_eq_false_iff]
                    exact this
                  subst hi
                  have t1 : (bs.toList == []) = false := by
                    have := toList_beq bs ⟨#[]⟩
                    rw [decide_eq_false hbe, show (⟨#[]⟩ : ByteArray).toList = [] from by rw [ByteArray.toList_eq]] at this
                    exact this
                  have t2 : bs.toList.isEmpty = false := by
                    cases h : bs.toList with
                    | nil => rw [h] at t1; cases t1
                    | cons _ _ => rfl
                  have t3 : ¬ bs.toList = [] := fun h => by rw [h] at t1; cases t1
                  clear hbe
                  go_wp2_with (first
                    | (go_at_call 25; (with_reducible refine Calls.mono (HQU.out _ HJb.out) ?_); rintro e wa ⟨ada', ca', rfl, hEa, hba⟩; have HEa := Lib.hid hEa; have HBa := Lib.hid hba; clear hEa hba)
                    | (go_at_call 21; (with_reducible refine Calls.mono (SM.out _ _ _ HEa.out (HE1.out.below HBa.out)) ?_); rintro e wb ⟨rfl, hbb⟩; have HBb := Lib.hid (Below.next HBa.out hbb); clear hbb)
                    | (go_at_call 21; (with_reducible refine Calls.mono (SM.out _ _ _ (HE2.out.below HBb.out) (HE1.out.below HBb.out)) ?_); rintro e we ⟨rfl, hbe⟩; have HBe := Lib.hid (Below.next HBb.out hbe); clear hbe))
                  exact ⟨⟨k + 1, by omega, by go_num, Lib.hid (Below.next H5.out (Below.next HJb.out HBe.out))⟩, by simp [intOf]; omega⟩
    · go_wp2_with fail
      go_ret
      exact ⟨rfl, Below.next HWB.out HK.out⟩
end Go.Proofs.Ytclaadiclgfbmaa
namespace Go.Proofs.Ytclaadiclgfbmaa
open Go.RowKit Go.Shelf

theorem off_ownsE {w : World} {base n : Nat} {v : Value} {xs : List Value} {T : TypeId} (h : w.ownsRow base 33 3 v n xs) (hne : 33 ≠ T) : OffT w v.ownBlock T := fun r cs fz e hr => by
  rcases h.2 with ⟨rfl, _⟩ | ⟨g', cap, cur, rfl, _, h2, _⟩
  · cases e
  · cases e
    rw [h2] at hr
    injection hr with hr
    injection hr with _ h3
    exact hne h3

/-- What is found behind a node, as far as i of its bytes are gone through. -/
def downE (t : Tr) (row : List UInt8) (i : Nat) : List Ent := ownT t.val row ++ (t.keys.take i).flatMap fun b => (t.way b).all (row ++ [b])
theorem downE_next (t : Tr) (row : List UInt8) (i : Nat) (h : i < t.keys.length) : downE t row (i + 1) = downE t row i ++ (t.way t.keys[i]).all (row ++ [t.keys[i]]) := by
  unfold downE
  rw [List.take_succ_eq_append_getElem h, List.flatMap_append, List.append_assoc]
  simp
theorem downE_all {t : Tr} (row : List UInt8) (h : t.isNil = false) : downE t row t.keys.length = t.all row := by
  unfold downE
  rw [List.take_length]
  exact (Tr.all_eq t row h).symm
theorem downE_le {t : Tr} (row : List UInt8) (h : t.isNil = false) : ∀ i, (downE t row i).length ≤ (t.all row).length := by
  intro i
  rw [← downE_all row h]
  unfold downE
  rw [List.length_append, List.length_append]
  refine Nat.add_le_add_left ?_ _
  rw [← List.take_append_drop i t.keys]
  rw [List.take_length, List.take_append_drop]
  conv => rhs; rw [← List.take_append_drop i t.keys, List.flatMap_append, List.length_append]
  omega
theorem all_some {t : Tr} (hg : t.Good) (h : t.isNil = false) (row : List UInt8) : 0 < (t.all row).length := by
  obtain ⟨r, v, hr⟩ := hg.some h
  have : entOf (row ++ r) v ∈ t.all row := (Tr.mem_all t row _).2 ⟨r, rfl, hr⟩
  exact List.length_pos_of_mem this
theorem all_len : ∀ (t : Tr) (r s : List UInt8), (t.all r).length = (t.all s).length
  | .nil, _, _ => rfl
  | .node v ws, r, s => by
    unfold Tr.all
    rw [List.length_append, List.length_append, List.length_flatMap, List.length_flatMap]
    have e1 : (ownT v r).length = (ownT v s).length := by cases v <;> rfl
    have e2 : (fun b => ((ws b).all (r ++ [b])).length) = fun b => ((ws b).all (s ++ [b])).length := funext fun b => all_len (ws b) _ _
    rw [e1]
    simp only [e2]
theorem below_drewN' {w0 w : World} {n : Nat} (h : Below w0.heap.size w0 w) : Below w0.heap.size w0 (w.drewN n) := h.trans ⟨rfl, rfl, rfl, Nat.le_refl _, fun _ _ => rfl⟩
theorem step_box {w w3 : World} {v u : Value} {t : Tr} {p : Option Nat} {n0 : Nat} (hn : n0 ≤ w.heap.size) (hN : NodeO (fun k => k < n0) w3 t p) (h : Boxed w3 w.heap.size 49 u) (hb : Below w.heap.size w w3) :
    Boxed (w3.setCell ⟨w.heap.size, 0, none⟩ v) w.heap.size 49 v ∧ NodeO (fun k => k < n0) (w3.setCell ⟨w.heap.size, 0, none⟩ v) t p ∧ Below w.heap.size w (w3.setCell ⟨w.heap.size, 0, none⟩ v) :=
  ⟨h.set v, hN.kept (fun _ h => h) (fun k hk _ => Below.heap_setCell _ _ _ _ (show k ≠ w.heap.size by omega)), hb.setCell (p := ⟨w.heap.size, 0, none⟩) (Nat.le_refl _) v⟩
theorem keys_rising (t : Tr) (i j : Nat) (hi : i < j) (hj : j < t.keys.length) : (t.keys[i]'(by omega)).toNat < t.keys[j].toNat := by
  have := List.pairwise_iff_getElem.1 (Tr.keys_rise t) i j (by omega) hj hi
  exact this

set_option maxHeartbeats 8000000 in
set_option maxRecDepth 100000 in
theorem walk_some : ∀ (d : Nat) (t : Tr) (q : Nat) (row : ByteArray) (w : World), NodeO (fun _ => True) w t (some q) → Tr.Slim d t → (∀ b, (t.way b).Good) → row.size + d ≤ 1000 → (t.all row.data.toList).length ≤ 1000 →
    Calls Try.prog 29 #[.agg #[.pointer (some ⟨q, 0, none⟩)], .string row] w fun e w' => ∃ v, e = .returned (.tuple #[v, .bool true]) ∧ Ents w' v (t.all row.data.toList) ∧ Below w.heap.size w w' := by
  intro d
  induction d with
  | zero =>
    intro t q row w hN hS
    have := hN.isSome
    rw [show t.isNil = true from hS] at this
    cases this
  | succ d ih =>
    intro t q row w hN hS hG hrow hall
    have hnil : t.isNil = false := by
      have := hN.isSome
      simpa using this.symm
    have hk50 := hS.1
    have IH : Hid (∀ (b : UInt8) (q' : Nat) (W : World), (t.way b).isNil = false → NodeO (fun _ => True) W (t.way b) (some q') → Calls Try.prog 29 #[.agg #[.pointer (some ⟨q', 0, none⟩)], .string (row ++ ⟨#[b]⟩)] W fun e w' => ∃ ad c, e = .returned (.tuple #[.slice ad ((t.way b).all (row.data.toList ++ [b])).length c, .bool true]) ∧ Ents w' (.slice ad ((t.way b).all (row.data.toList ++ [b])).length c) ((t.way b).all (row.data.toList ++ [b])) ∧ Below W.heap.size W w') := Lib.hid fun b q' W hb h => by
      have hle : ((t.way b).all (row.data.toList ++ [b])).length ≤ (t.all row.data.toList).length := by rw [all_len t row.data.toList (row.data.toList ++ [b])]; exact Tr.way_le t b _
      have hrs : (row ++ ⟨#[b]⟩ : ByteArray).size = row.size + 1 := by rw [ByteArray.size_append]; rfl
      have := ih (t.way b) q' (row ++ ⟨#[b]⟩) W h (hS.2 b) (fun c => (hG b).way c) (by omega) (by rw [toList_snoc]; omega)
      rw [toList_snoc] at this
      refine this.mono ?_
      rintro e w' ⟨v, rfl, h1, h2⟩
      obtain ⟨ad, c, rfl, h3⟩ := h1
      exact ⟨ad, c, rfl, ⟨ad, c, rfl, h3⟩, h2⟩
    have hb0 := below_alloc w (.cells #[.pointer (some ⟨q, 0, none⟩)] 49)
    have HV : Hid (Calls Try.prog 85 #[.agg #[.pointer (some ⟨q, 0, none⟩)]] (w.alloc (.cells #[.pointer (some ⟨q, 0, none⟩)] 49)) fun e w' => e = .returned (.tuple #[.int .u32 (vW t.val : Int), .bool (vG t.val), .bool (vI t.val)]) ∧ Below (w.alloc (.cells #[.pointer (some ⟨q, 0, none⟩)] 49)).heap.size (w.alloc (.cells #[.pointer (some ⟨q, 0, none⟩)] 49)) w') := Lib.hid (value_some (hN.below hb0))
    obtain ⟨n1, hn1⟩ : ∃ n1, n1 = vW t.val := ⟨_, rfl⟩
    obtain ⟨b2, hb2⟩ : ∃ b2, b2 = vG t.val := ⟨_, rfl⟩
    obtain ⟨b3, hb3⟩ : ∃ b3, b3 = vI t.val := ⟨_, rfl⟩
    have HO : Hid (ownT t.val row.data.toList = if b3 = true then [⟨row, n1, b2⟩] else []) := Lib.hid (by
      rw [hn1, hb2, hb3]
      cases t.val <;> rfl)
    obtain ⟨OW, hOW⟩ : ∃ OW, OW = ownT t.val row.data.toList := ⟨_, rfl⟩
    rw [← hn1, ← hb2, ← hb3] at HV
    rw [← hOW] at HO
    have HOW := Lib.hid hOW
    clear hn1 hb2 hb3 hOW
    have HNW : Hid (∀ W, Below w.heap.size w W → NodeO (fun k => k < w.heap.size) W t (some q)) := Lib.hid fun W h => hN.here.below h
    have HBX : Hid (∀ W, Below (w.alloc (.cells #[.pointer (some ⟨q, 0, none⟩)] 49)).heap.size (w.alloc (.cells #[.pointer (some ⟨q, 0, none⟩)] 49)) W → Boxed W w.heap.size 49 (.pointer (some ⟨q, 0, none⟩))) := Lib.hid fun W h => boxed_below (Boxed.new w 49 _) h
    have HG := Lib.hid hG
    have HNIL := Lib.hid hnil
    have hrow1 : row.size ≤ 999 := by omega
    have HALL := Lib.hid hall
    clear hb0 hN hG hnil hS hrow hall ih
    go_enter Try.func29, Try.ntmps29
    go_upto_if 22 with (go_at_call 85; (with_reducible refine Calls.mono HV.out ?_); rintro e w1 ⟨rfl, hb1⟩; have H1 := Lib.hid hb1; clear hb1)
    have hz1 : w.heap.size < w1.heap.size := by have := H1.out.size; simp at this; omega
    go_cut [6] from 23 to 29 (fun s6 wx => Hid (wx.ownsRow w1.heap.size 33 3 s6 OW.length (ents OW) ∧ Below w1.heap.size w1 wx))
    case first =>
      cases b3 with
      | false =>
        have HO' : Hid (OW = []) := Lib.hid (by rw [HO.out]; rfl)
        go_wp2_with fail
        go_meet
        exact Lib.hid ⟨by rw [HO'.out]; exact ownsE_nil _ _, Below.refl _ _⟩
      | true =>
        have HO' : Hid (OW = [⟨row, n1, b2⟩]) := Lib.hid (by rw [HO.out]; rfl)
        go_wp2_with (at_builtin; refine wpList_append_ents rfl _ _ rfl rfl w1.heap.size _ _ [] [⟨row, n1, b2⟩] rfl rfl (ownsE_nil _ _) (ents_single (w := w1) (x := ⟨row, n1, b2⟩) (g := w1.heap.size) rfl) (by simp) (by simp) ?_; intro v' w' o1 g1)
        go_meet
        exact Lib.hid ⟨by rw [HO'.out]; exact o1, (below_alloc _ _).grown g1 (by simp) (fun j hj => by cases hj)⟩
    case rest =>
    obtain ⟨w2, h⟩ : ∃ w2, w2 = wc := ⟨_, rfl⟩
    subst h
    have hb2 := hcut.out.2
    have c2 := (HBX.out _ (Below.next H1.out hb2)).cell
    have HB := Lib.hid (by
      have h0 : Below w.heap.size w w2 := Below.next (Below.next (below_alloc _ _) H1.out) hb2
      have := bytes_at (HNW.out _ h0).all hk50
      exact this : Calls Try.prog 36 #[.agg #[.pointer (some ⟨q, 0, none⟩)]] w2 fun e w' => ∃ v, e = .returned v ∧ BRow w' v t.keys ∧ Below w2.heap.size w2 w')
    have HK2 := Lib.hid hcut.out
    obtain ⟨ks, hks⟩ : ∃ ks, ks = t.keys := ⟨_, rfl⟩
    rw [← hks] at HB
    have hk50' : ks.length < 50 := by rw [hks]; exact hk50
    have HKS := Lib.hid hks
    clear hcut hb2 hk50 hks
    go_wp2_with (go_at_call 36; (with_reducible refine Calls.mono HB.out ?_); rintro e w3 ⟨v3, rfl, hB3, hb3⟩; obtain ⟨adk, ck, rfl, -, -⟩ := hB3.shape; have H3 := Lib.hid (And.intro hB3 hb3); clear hB3 hb3)
    obtain ⟨w4, h⟩ : ∃ w4, w4 = w3 := ⟨_, rfl⟩
    subst h
    have h14 : Below w1.heap.size w1 w4 := Below.next HK2.out.2 H3.out.2
    have HS0 := Lib.hid (And.intro (owns_below' HK2.out.1 H3.out.2) (And.intro h14 (And.intro H3.out.1 (HBX.out _ (Below.next H1.out h14)))))
    clear h14 HK2 H3 HV c2
    go_loopw [6, 11] (fun s6 s11 wr => ∃ i : Nat, i ≤ ks.length ∧ s11 = .int .i64 i ∧ Hid (wr.ownsRow w1.heap.size 33 3 s6 (downE t row.data.toList i).length (ents (downE t row.data.toList i)) ∧ Below w1.heap.size w1 wr ∧ BRow wr (.slice adk ks.length ck) ks ∧ Boxed wr w.heap.size 49 (.pointer (some ⟨q, 0, none⟩)))) (fun _ s11 _ => ks.length - (intOf s11).toNat)
    case atStart => exact ⟨0, Nat.zero_le _, rfl, Lib.hid (by
      have e : downE t row.data.toList 0 = OW := by rw [HOW.out]; unfold downE; simp
      rw [e]; exact HS0.out)⟩
    case round =>
      obtain ⟨i, hi, rfl, HI⟩ := hrel
      obtain ⟨wz, h⟩ : ∃ wz, wz = wr := ⟨_, rfl⟩
      subst h
      by_cases hlt : i < ks.length
      · obtain ⟨x, hx⟩ : ∃ x, x = ks[i] := ⟨_, rfl⟩
        obtain ⟨bk, rfl, ckx⟩ := brow_at HI.out.2.2.1 i hlt
        rw [← hx] at ckx
        have hbkl : bk < wz.heap.size := block_lt_of_cell ckx
        have cq := HI.out.2.2.2.cell
        have hwl : w.heap.size < wz.heap.size := HI.out.2.2.2.lt
        have hz1w : w1.heap.size ≤ wz.heap.size := HI.out.2.1.size
        have h0z : Below w.heap.size w wz := Below.next (Below.next (below_alloc _ _) H1.out) HI.out.2.1
        have hnx : (t.way x).isNil = false := by
          have hm : x ∈ t.keys := by rw [← HKS.out, hx]; exact List.getElem_mem hlt
          exact (Tr.mem_keys t x).1 hm
        have CX : Hid (∀ W, Below wz.heap.size wz W → W.cell? ⟨w.heap.size, 0, none⟩ = some (.pointer (some ⟨q, 0, none⟩)) ∧ W.cell? ⟨bk, i, none⟩ = some (.int .u8 (x.toNat : Int)) ∧ Below wz.heap.size wz W) := Lib.hid fun W h => ⟨(boxed_below HI.out.2.2.2 h).cell, (h.cell (p := ⟨bk, i, none⟩) hbkl).trans ckx, h⟩
        have SK := Lib.hid (fun W (h : Below wz.heap.size wz W) => law_there (HNW.out W (Below.next h0z h)) x hnx)
        have HZ := Lib.hid h0z
        have HX := Lib.hid hx
        clear h0z hx
        go_upto_region 9 with fail
        go_cut [12, 13] from 38 to 46 (fun s12 s13 wx => ∃ B q', s12 = .pointer (some ⟨B, 0, none⟩) ∧ s13 = .bool true ∧ Hid (Boxed wx B 49 (.pointer (some ⟨q', 0, none⟩)) ∧ NodeO (fun k => k < w.heap.size) wx (t.way x) (some q') ∧ Below wz.heap.size wz wx))
        case first =>
          go_region_held3 (fun W => W.cell? ⟨w.heap.size, 0, none⟩ = some (.pointer (some ⟨q, 0, none⟩)) ∧ W.cell? ⟨bk, i, none⟩ = some (.int .u8 (x.toNat : Int)) ∧ Below wz.heap.size wz W)
            ((refine CX.out _ ?_; repeat (first | with_reducible exact Below.refl _ _ | (with_reducible refine Below.drew ?_) | (with_reducible apply below_alloc') | (with_reducible apply N1) | (with_reducible refine Below.setCell ?_ (by first | exact Nat.le_refl _ | exact NZ | (simp; omega)) _))))
            ((go_at_call 88; (with_reducible refine Calls.mono (SK.out _ (by repeat (first | with_reducible exact Below.refl _ _ | (with_reducible refine Below.drew ?_) | (with_reducible apply below_alloc')))) ?_); rintro e w5 ⟨q', rfl, hN5, hb5⟩; obtain ⟨hc5, hf5⟩ := bcell hb5; have hw5 : Below wz.heap.size wz w5 := Below.next (by repeat (first | with_reducible exact Below.refl _ _ | (with_reducible refine Below.drew ?_) | (with_reducible apply below_alloc'))) hb5; have N1 := fun (h : Below wz.heap.size wz _) => Below.next h hb5; have NZ : wz.heap.size ≤ w5.heap.size := hw5.size; have H5 := Lib.hid (And.intro hN5 (And.intro hw5 hb5)); clear hN5 hw5))
          all_goals go_wp2_with fail
          all_goals go_meet
          all_goals first
            | exact ⟨_, q', rfl, rfl, Lib.hid ⟨Boxed.new w5 49 _, H5.out.1.below (below_alloc _ _), below_alloc' H5.out.2.1⟩⟩
            | exact ⟨_, q', rfl, rfl, Lib.hid (step_box (by omega) H5.out.1 (boxed_below (boxed_drew (Boxed.new wz 49 (.pointer none))) H5.out.2.2) H5.out.2.1)⟩
        case rest =>
        obtain ⟨B12, q', rfl, rfl, HP⟩ := hcut
        obtain ⟨w6, h⟩ : ∃ w6, w6 = wc := ⟨_, rfl⟩
        subst h
        have hz6 : wz.heap.size ≤ w6.heap.size := HP.out.2.2.size
        have c12 := HP.out.1.cell
        have ckx6 := (CX.out w6 HP.out.2.2).2.1
        obtain ⟨m, hm⟩ : ∃ m, m = i - 1 := ⟨_, rfl⟩
        obtain ⟨y, hy⟩ : ∃ y, y = ks.getD m 0 := ⟨_, rfl⟩
        have HLT : Hid (0 < i → m < ks.length ∧ y.toNat < x.toNat ∧ w6.cell? ⟨bk, m, none⟩ = some (.int .u8 (y.toNat : Int))) := Lib.hid fun h0 => by
          have hml : m < ks.length := by omega
          have e : y = ks[m] := by rw [hy]; simp [hml]
          refine ⟨hml, ?_, ?_⟩
          · have hk := HKS.out
            subst hk
            rw [e, HX.out]
            exact keys_rising t m i (by omega) hlt
          · obtain ⟨bk', hbk', hc'⟩ := brow_at (HI.out.2.2.1.below HP.out.2.2) m hml
            cases hbk'
            rw [e]; exact hc'
        have ei : (i : Int) - 1 = (m : Int) ∨ i = 0 := by omega
        clear hy
        have QI := Lib.hid (fun W (h : Below w6.heap.size w6 W) => IH.out x q' W hnx ((HP.out.2.1.below h).all))
        have hcv := fun (W : World) => conv_str (brow_one W x)
        have hcvd := fun (W : World) => conv_str (w := (W.alloc (.cells #[.int .u8 (x.toNat : Int)] 5)).drew) (l := [x]) (v := .slice (some ⟨W.heap.size, 0, none⟩) 1 1) (brow_one W x)
        go_upto_region 10 with fail
        go_cut [64] from 47 to 63 (fun s64 wx => s64 = .bool false ∧ ∃ n, wx = w6.drewN n)
        case first =>
          by_cases hi0 : 0 < i
          · obtain ⟨hml, hyx, cky⟩ := HLT.out hi0
            have ei1 : (i : Int) - 1 = (m : Int) := by omega
            have ei2 : IntKind.i64.wrap ((i : Int) - 1) = (m : Int) := by rw [ei1]; exact IntWalk.i64_in _ (by omega)
            have d0 : decide ((0 : Int) < (i : Int)) = true := decide_eq_true (by omega)
            have d1 : decide (x.toNat ≤ y.toNat) = false := decide_eq_false (by omega)
            have d2 : decide ((x.toNat : Int) ≤ (y.toNat : Int)) = false := decide_eq_false (by omega)
            clear ei hm HLT
            go_quiet (fail)
            go_wp2_with fail
            go_meet
            exact ⟨rfl, _, rfl⟩
          · have d0 : decide ((0 : Int) < (i : Int)) = false := decide_eq_false (by omega)
            clear ei hm HLT
            go_quiet (fail)
            go_wp2_with fail
            go_meet
            exact ⟨rfl, _, rfl⟩
        case rest =>
        obtain ⟨rfl, nq, rfl⟩ := hcut
        obtain ⟨w7, hw7⟩ : ∃ w7, w7 = w6.drewN nq := ⟨_, rfl⟩
        have H67 : Hid (Below w6.heap.size w6 w7) := Lib.hid (by rw [hw7]; exact below_drewN' (Below.refl _ _))
        have c12' : w7.cell? ⟨B12, 0, none⟩ = some (.pointer (some ⟨q', 0, none⟩)) := by rw [hw7]; exact c12
        have ckx7 : w7.cell? ⟨bk, i, none⟩ = some (.int .u8 (x.toNat : Int)) := by rw [hw7]; exact ckx6
        rw [← hw7]
        clear hw7 c12 ckx6 HLT ei hm
        go_upto_region 12 with fail
        go_cut [14, 15] from 65 to 77 (fun s14 s15 wx => ∃ ad c, s14 = .slice ad ((t.way x).all (row.data.toList ++ [x])).length c ∧ s15 = .bool true ∧ Hid (Ents wx (.slice ad ((t.way x).all (row.data.toList ++ [x])).length c) ((t.way x).all (row.data.toList ++ [x])) ∧ Below w7.heap.size w7 wx))
        case first =>
          have CX7 : Hid (∀ W, Below w7.heap.size w7 W → W.cell? ⟨B12, 0, none⟩ = some (.pointer (some ⟨q', 0, none⟩)) ∧ W.cell? ⟨bk, i, none⟩ = some (.int .u8 (x.toNat : Int)) ∧ Below w7.heap.size w7 W) := Lib.hid fun W h => ⟨(h.cell (p := ⟨B12, 0, none⟩) (block_lt_of_cell c12')).trans c12', (h.cell (p := ⟨bk, i, none⟩) (block_lt_of_cell ckx7)).trans ckx7, h⟩
          have hov : ¬ 9223372036854775807 < (row.size : Int) + 1 := by omega
          have hov' : ¬ 9223372036854775807 < row.size + 1 := by omega
          have QI7 := Lib.hid (fun W (h : Below w7.heap.size w7 W) => QI.out W (Below.next H67.out h))
          obtain ⟨cd1, cd2, -⟩ := CX7.out _ (Below.drew (Below.refl w7.heap.size w7))
          obtain ⟨ce1, ce2, -⟩ := CX7.out _ (Below.drew (below_alloc' (o := .cells #[.int .u8 (x.toNat : Int)] 5) (Below.refl w7.heap.size w7)))
          go_region_with (go_at_call 29; (with_reducible refine Calls.mono (QI7.out _ (by repeat (first | with_reducible exact Below.refl _ _ | (with_reducible refine Below.drew ?_) | (with_reducible apply below_alloc')))) ?_); rintro e w8 ⟨ad8, c8, rfl, hE8, hb8⟩; have hw8 : Below w7.heap.size w7 w8 := Below.next (by repeat (first | with_reducible exact Below.refl _ _ | (with_reducible refine Below.drew ?_) | (with_reducible apply below_alloc'))) hb8; obtain ⟨cz1, cz2, -⟩ := CX7.out w8 hw8; have H8 := Lib.hid (And.intro hE8 hw8); clear hE8 hw8)
          all_goals go_wp2_with fail
          all_goals go_meet
          all_goals exact ⟨_, _, rfl, rfl, H8⟩
        case rest =>
        obtain ⟨adm, cm, rfl, rfl, HM⟩ := hcut
        obtain ⟨w8, h⟩ : ∃ w8, w8 = wc := ⟨_, rfl⟩
        subst h
        obtain ⟨Mo, hMo⟩ : ∃ Mo, Mo = (t.way x).all (row.data.toList ++ [x]) := ⟨_, rfl⟩
        have hml : 0 < Mo.length := by rw [hMo]; exact all_some (HG.out x) hnx _
        have hmle : Mo.length ≤ 1000 := by
          rw [hMo, all_len (t.way x) (row.data.toList ++ [x]) row.data.toList]
          exact Nat.le_trans (Tr.way_le t x _) HALL.out
        rw [← hMo] at HM ⊢
        have hpl : (downE t row.data.toList i).length ≤ 1000 := Nat.le_trans (downE_le _ HNIL.out i) HALL.out
        have HPN : Hid (downE t row.data.toList (i + 1) = downE t row.data.toList i ++ Mo) := Lib.hid (by
          have hk := HKS.out
          subst hk
          rw [downE_next t row.data.toList i hlt, hMo, HX.out])
        obtain ⟨P, hP⟩ : ∃ P, P = downE t row.data.toList i := ⟨_, rfl⟩
        rw [← hP] at HPN hpl
        have HI' := Lib.hid (by have := HI.out; rw [← hP] at this; exact this : wz.ownsRow w1.heap.size 33 3 u6 P.length (ents P) ∧ Below w1.heap.size w1 wz ∧ BRow wz (.slice (some ⟨bk, 0, none⟩) ks.length ck) ks ∧ Boxed wz w.heap.size 49 (.pointer (some ⟨q, 0, none⟩)))
        have H8z : Hid (Below wz.heap.size wz w8) := Lib.hid (Below.next HP.out.2.2 (Below.next H67.out HM.out.2))
        have HOWN := Lib.hid (owns_below' HI'.out.1 H8z.out)
        have hz8 : w1.heap.size ≤ w8.heap.size := Nat.le_trans hz1w H8z.out.size
        have t0 : decide ((Mo.length : Int) = 0) = false := decide_eq_false (by omega)
        have t1 : ((Mo.length : Int) == 0) = false := by rw [beq_eq_false_iff_ne]; omega
        have t2 : (Mo.length == 0) = false := by rw [beq_eq_false_iff_ne]; omega
        have t3 : ¬ Mo.length = 0 := by omega
        have t4 : ¬ Mo = [] := fun h => by rw [h] at hml; simp at hml
        clear hMo hP
        go_wp2_with (at_builtin; refine wpList_append_ents rfl _ _ rfl rfl w1.heap.size _ _ P Mo rfl rfl HOWN.out HM.out.1 (by omega) (by omega) ?_; intro v' w' o1 g1)
        exact ⟨⟨i + 1, by omega, by go_num, Lib.hid ⟨by rw [HPN.out]; exact o1, (Below.next HI'.out.2.1 H8z.out).grown g1 hz8 (fun j hj => (HOWN.out.lt j hj).1), (HI'.out.2.2.1.below H8z.out).kept g1 (brow_apart (HI'.out.2.2.1.below H8z.out) HOWN.out), boxed_off (boxed_below HI'.out.2.2.2 H8z.out) g1 (off_ownsE HOWN.out (by decide))⟩⟩, by simp [intOf]; omega⟩
      · obtain rfl : i = ks.length := by omega
        have HE : Hid (Ents wz u6 (t.all row.data.toList) ∧ Below w.heap.size w wz) := Lib.hid ⟨by
          have h := ents_of_owns HI.out.1
          have hk := HKS.out
          subst hk
          rw [downE_all _ HNIL.out] at h
          exact h, Below.next (Below.next (below_alloc _ _) H1.out) HI.out.2.1⟩
        clear HI
        go_wp2_with fail
        go_ret2
        exact ⟨_, rfl, HE.out.1, HE.out.2⟩
end Go.Proofs.Ytclaadiclgfbmaa
namespace Go.Proofs.Ytclaadiclgfbmaa
open Go.RowKit Go.Shelf

theorem bare_word (x : Ent) : (bare x).word = x.word := by unfold bare; split <;> rfl
theorem bare_said' {x : Ent} (h : bare x = x) : saidE x = (x.weight, x.gone) := by
  have := bare_said x
  rw [h] at this
  have h1 := congrArg Ent.weight this
  have h2 := congrArg Ent.gone this
  exact Prod.ext h1 h2

theorem puts_inv : ∀ (l acc : List Ent), (∀ x ∈ acc, wordT x.word = true ∧ bare x = x) → ∀ x ∈ l.foldl (fun a x => if wordT x.word = true then putE a (bare x) else a) acc, wordT x.word = true ∧ bare x = x
  | [], _, h => h
  | y :: l, acc, h => by
    rw [List.foldl_cons]
    refine puts_inv l _ fun x hx => ?_
    split at hx
    · rename_i hy
      rcases mem_putE hx with rfl | hx
      · exact ⟨by rw [bare_word]; exact hy, bare_bare y⟩
      · exact h x hx
    · exact h x hx
theorem newT_inv (l : List Ent) : ∀ x ∈ (newT l).all [], wordT x.word = true ∧ bare x = x := by
  rw [newT_all]
  exact puts_inv l [] (fun x hx => by cases hx)

theorem mem_put_iff {A acc : List Ent} (hA : risingE A = true) (hs : ∀ x ∈ acc, x ∈ A) (hr : risingE acc = true) {y : Ent} (hy : y ∈ A) (x : Ent) : x ∈ putE acc y ↔ x = y ∨ x ∈ acc := by
  constructor
  · exact mem_putE
  · intro h
    by_cases hxy : x = y
    · subst hxy
      have := findE_putE x hr (key x)
      rw [if_pos rfl] at this
      exact (findE_some this).1
    · have hx : x ∈ acc := h.resolve_left hxy
      have hk : key y ≠ key x := fun e => hxy (by
        have h1 := findE_mem hA hy
        have h2 := findE_mem hA (hs x hx)
        rw [e, h2] at h1
        exact Option.some.inj h1)
      have := findE_putE y hr (key x)
      rw [if_neg hk, findE_mem hr hx] at this
      exact (findE_some this).1
theorem puts_mem {A : List Ent} (hA : risingE A = true) (hw : ∀ x ∈ A, wordT x.word = true ∧ bare x = x) : ∀ (l acc : List Ent), (∀ x ∈ l, x ∈ A) → (∀ x ∈ acc, x ∈ A) → risingE acc = true →
    risingE (l.foldl (fun a x => if wordT x.word = true then putE a (bare x) else a) acc) = true ∧ ∀ x, x ∈ l.foldl (fun a x => if wordT x.word = true then putE a (bare x) else a) acc ↔ x ∈ l ∨ x ∈ acc
  | [], acc, _, _, hr => ⟨hr, fun x => by simp⟩
  | y :: l, acc, hl, ha, hr => by
    have hy := hl y (List.mem_cons_self ..)
    rw [List.foldl_cons, if_pos (hw y hy).1, (hw y hy).2]
    have hm := mem_put_iff hA ha hr hy
    obtain ⟨h1, h2⟩ := puts_mem hA hw l (putE acc y) (fun x hx => hl x (List.mem_cons_of_mem _ hx)) (fun x hx => by
      rcases (hm x).1 hx with rfl | h
      · exact hy
      · exact ha x h) (putE_rising hr y)
    refine ⟨h1, fun x => ?_⟩
    rw [h2, hm, List.mem_cons]
    constructor
    · rintro (h | h | h)
      · exact .inl (.inr h)
      · exact .inl (.inl h)
      · exact .inr h
    · rintro ((h | h) | h)
      · exact .inr (.inl h)
      · exact .inl h
      · exact .inr (.inr h)
/-- Entries of a rising list, put in any order, are that list. -/
theorem newT_turn {A L : List Ent} (hA : risingE A = true) (hw : ∀ x ∈ A, wordT x.word = true ∧ bare x = x) (hL : ∀ x, x ∈ L ↔ x ∈ A) : (newT L).all [] = A := by
  rw [newT_all]
  obtain ⟨h1, h2⟩ := puts_mem hA hw L [] (fun x hx => (hL x).1 hx) (fun x hx => by cases hx) rfl
  refine rising_mem_ext h1 hA fun x => ?_
  exact (h2 x).trans (by rw [hL]; simp)
theorem mem_turn (A : List Ent) (k : Nat) (x : Ent) : x ∈ A.drop k ++ A.take k ↔ x ∈ A := by
  rw [List.mem_append, Or.comm, ← List.mem_append, List.take_append_drop]

/-- A put loses nothing. -/
theorem putT_length (t : Tr) (x : Ent) : (t.all []).length ≤ ((putT t x).all []).length := by
  unfold putT
  split
  · have := (put_count t x.word (saidE x)).1
    omega
  · exact Nat.le_refl _
theorem putT_wide {t : Tr} {n : Nat} (h : (t.all []).length ≤ n ∧ ∀ x ∈ t.all [], x.word.size ≤ 255) (x : Ent) : ((putT t x).all []).length ≤ n + 1 ∧ ∀ y ∈ (putT t x).all [], y.word.size ≤ 255 := putT_fit h.1 h.2 x

theorem wordsLen_le : ∀ l : List Ent, (∀ x ∈ l, x.word.size ≤ 255) → wordsLen l ≤ 255 * l.length
  | [], _ => by simp [wordsLen]
  | x :: l, h => by
    have h1 := wordsLen_le l fun y hy => h y (List.mem_cons_of_mem _ hy)
    have h2 := h x (List.mem_cons_self ..)
    have e : wordsLen (x :: l) = x.word.size + wordsLen l := by simp [wordsLen]
    rw [e, List.length_cons]; omega

theorem put_wide {t : Tr} {T : Nat} {x : Ent} {w : World} (h : TrieAt w T (fun k => k ≠ T) t) (hf : (t.all []).length ≤ 500 ∧ ∀ x ∈ t.all [], x.word.size ≤ 255) (hs : x.word.size ≤ 1000) :
    Calls Try.prog 16 #[.pointer (some ⟨T, 0, none⟩), .agg #[.string x.word, .int .u32 (x.weight : Int), .bool x.gone]] w fun e w' => e = .returned (.int .i64 (if wordT x.word = true then 0 else 7)) ∧ TrieAt w' T (fun k => k ≠ T) (putT t x) ∧ w.grownBy w' (some T) := by
  have hT := h.lt
  unfold putT
  cases hx : wordT x.word with
  | true =>
    have hwl := wordsLen_le _ hf.2
    refine (put_good t T _ x w h hx hs (by have := hf.1; omega) (by have := hf.1; omega)).mono ?_
    rintro e w' ⟨rfl, h1, h2⟩
    refine ⟨rfl, ?_, h2⟩
    rw [if_pos rfl]
    exact h1.same (fun k hk => hk.elim (fun h => h) (fun h e => by subst e; omega)) (fun h => h rfl) (fun _ _ _ => rfl)
  | false =>
    refine (put_bad T x w hx (by omega)).mono ?_
    rintro e w' ⟨rfl, hb⟩
    rw [if_neg (by simp)]
    exact ⟨by simp, h.below hb, gb_below (gb_refl w _) hb⟩

theorem sizeE_nil : sizeE [] = 0 := rfl
theorem sizeE_next (A : List Ent) (i : Nat) (h : i < A.length) : sizeE (A.take (i + 1)) = sizeE (A.take i) + (ent A i).word.size + 8 := by
  rw [take_ent A i h]
  unfold sizeE wordsLen
  simp
  omega
theorem sizeE_le (A : List Ent) (h : ∀ x ∈ A, x.word.size ≤ 255) : sizeE A ≤ 263 * A.length := by
  have := wordsLen_le A h
  unfold sizeE; omega

theorem rising_at {A : List Ent} (h : risingE A = true) (i j : Nat) (hi : i < j) (hj : j < A.length) : Plain.less (key (ent A i)) (key (ent A j)) = true := by
  have h1 : risingE (A.take j ++ A.drop j) = true := by rw [List.take_append_drop]; exact h
  rw [risingE_append] at h1
  have hm1 : ent A i ∈ A.take j := by
    rw [ent_lt (by omega : i < A.length)]
    exact List.mem_take_iff_getElem.2 ⟨i, by omega, rfl⟩
  have hm2 : ent A j ∈ A.drop j := by
    rw [ent_lt hj]
    exact List.mem_drop_iff_getElem.2 ⟨0, by omega, by simp⟩
  exact h1.2.2 _ hm1 _ hm2

/-- What a trie says of its own entries. -/
theorem get_own {t : Tr} {x : Ent} (h : x ∈ t.all []) : t.get x.word.data.toList = some (x.weight, x.gone) := by
  obtain ⟨r, h1, h2⟩ := (Tr.mem_all t [] x).1 h
  rw [List.nil_append] at h1
  rw [show x.word.data.toList = key x from rfl, h1]
  exact h2
end Go.Proofs.Ytclaadiclgfbmaa

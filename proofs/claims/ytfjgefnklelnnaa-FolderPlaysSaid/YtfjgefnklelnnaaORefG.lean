/-
  The document's folder: a new one, what is pending, a name's number, the names.
-/
import Derived.Test.YtfjgefnklelnnaaORefF
import Derived.Test.YtfjgefnklelnnaaOTwo
import Derived.Test.YtfjgefnklelnnaaOApart
namespace Go.Proofs.Ytfjgefnklelnnaa
open Go.RowKit Go.Shelf

theorem find_drop (l : Names) (k : Nat) (h : k < l.length) (s : List UInt8) : findT (l.drop k) s = if (nam l k).1 = s then some (nam l k).2 else findT (l.drop (k + 1)) s := by
  rw [List.drop_eq_getElem_cons h, nam_lt h]
  unfold findT
  rw [List.find?_cons]
  by_cases hs : l[k].1 = s
  · rw [if_pos hs, decide_eq_true hs]; rfl
  · rw [if_neg hs, decide_eq_false hs]

set_option maxRecDepth 100000 in
theorem refPending_any {w : World} {q n : Nat} {Ws : List Names} {J : Nat → Prop} (h : RefAt w q Ws n J) :
    Calls Try.prog 19 #[.pointer (some ⟨q, 0, none⟩)] w fun e w' => e = .returned (.int .i64 ((Ws.length - 1 : Nat) : Int)) ∧ Below w.heap.size w w' := by
  obtain ⟨av, vs, h1, h2, h3, h4, h5, h6⟩ := h.it
  have hs := h.some
  obtain ⟨g, c, rfl, hc1, hc2, hlt, hcell⟩ := was_cells h2 h3 hs
  have c0 : w.cell? ⟨q, 0, none⟩ = some (.slice (some ⟨g, 0, none⟩) Ws.length c) := by rw [cell_of_row w q 0 _ 59 (0, 0) h1]; rfl
  obtain ⟨i, hi⟩ : ∃ i, Ws.length = i + 1 := ⟨Ws.length - 1, by omega⟩
  rw [hi] at c0
  rw [show Ws.length - 1 = i by omega]
  have hsm := h.small.1
  have e2 : IntKind.i64.wrap (i : Int) = (i : Int) := IntWalk.i64_in _ ⟨by omega, by omega⟩
  clear hcell h6 h5 h4 h2 h1 h h3
  go_enter Try.func19, Try.ntmps19
  go_wp2
  go_ret
  exact ⟨rfl, Below.refl _ _⟩

set_option maxHeartbeats 1000000 in
set_option maxRecDepth 100000 in
theorem refFind_any {w : World} {q n : Nat} {Ws : List Names} {J : Nat → Prop} (h : RefAt w q Ws n J) (s : ByteArray) :
    Calls Try.prog 35 #[.pointer (some ⟨q, 0, none⟩), .string s] w fun e w' => e = .returned (.tuple #[.int .i64 (foundN (nowN Ws) s.data.toList : Nat), .bool (foundB (nowN Ws) s.data.toList)]) ∧ Below w.heap.size w w' := by
  have Q39 := Lib.hid (refNow_any h)
  have hll : (nowN Ws).length ≤ 100000 := by
    have := h.some
    rw [nowN_at this]
    exact h.small.2.2 _ (by omega)
  obtain ⟨l, hl⟩ : ∃ l, nowN Ws = l := ⟨_, rfl⟩
  rw [hl] at Q39 hll ⊢
  have hsk : s.toList = s.data.toList := Lib.toList_data s
  obtain ⟨N, hN⟩ : ∃ N, foundN l s.data.toList = N := ⟨_, rfl⟩
  obtain ⟨B, hB⟩ : ∃ B, foundB l s.data.toList = B := ⟨_, rfl⟩
  rw [hN, hB]
  have HNB := Lib.hid (And.intro hN hB)
  clear h hl hN hB
  go_enter Try.func35, Try.ntmps35
  go_upto_block 0 with (go_at_call 39; (with_reducible refine Q39.out.mono ?_); rintro e w1 ⟨v, rfl, ⟨r1, _⟩, b1⟩; have HN := Lib.hid (nams_cell ((nams_of_owns r1).below b1)); have HB1 := Lib.hid b1; clear r1 b1)
  obtain ⟨ad, cp, rfl, hc⟩ := HN.out
  have HC := Lib.hid hc
  clear hc HN Q39
  go_wp2_with fail
  go_loopw [7] (fun s7 wr => ∃ k : Nat, k ≤ l.length ∧ s7 = .int .i64 k ∧ findT (l.drop k) s.data.toList = findT l s.data.toList ∧ Below w1.heap.size w1 wr) (fun s7 _ => l.length - (intOf s7).toNat)
  case atStart => exact ⟨0, Nat.zero_le _, rfl, rfl, Below.refl _ _⟩
  case round =>
    obtain ⟨k, hk, rfl, hf, hb⟩ := hrel
    have HB := Lib.hid hb
    clear hb
    by_cases hlt : k < l.length
    · have e1 : decide ((k : Int) < (l.length : Int)) = true := decide_eq_true (by omega)
      have e1' : decide (k < l.length) = true := decide_eq_true hlt
      obtain ⟨b, o, rfl, hE⟩ := HC.out k hlt
      obtain ⟨h1, h2⟩ := hE.below HB.out
      have hfd := find_drop l k hlt s.data.toList
      obtain ⟨y, hy⟩ : ∃ y, nam l k = y := ⟨_, rfl⟩
      rw [hy] at h1 h2 hfd
      have hyk : (strO y.1).toList = y.1 := by rw [Lib.toList_data, strO_data]
      clear hy hE
      by_cases hq : y.1 = s.data.toList
      · rw [if_pos hq, hf] at hfd
        have hqb : (y.1 == s.data.toList) = true := beq_iff_eq.2 hq
        obtain rfl : N = y.2 := HNB.out.1.symm.trans (foundN_of hfd)
        obtain rfl : B = true := HNB.out.2.symm.trans (foundB_of hfd)
        clear hfd hf hq
        go_wp2_with fail
        go_ret2
        exact ⟨rfl, Below.next HB1.out HB.out⟩
      · rw [if_neg hq, hf] at hfd
        have hqb : (y.1 == s.data.toList) = false := by simp [hq]
        have HF := Lib.hid hfd
        clear hfd hf hq
        go_wp2_with fail
        exact ⟨⟨k + 1, by omega, by go_num, HF.out.symm, HB.out⟩, by simp [intOf]; omega⟩
    · have e1 : decide ((k : Int) < (l.length : Int)) = false := decide_eq_false (by omega)
      have e1' : decide (k < l.length) = false := decide_eq_false hlt
      have hnone : findT l s.data.toList = none := by
        rw [← hf, List.drop_of_length_le (by omega)]
        rfl
      have hF : foundN l s.data.toList = 0 ∧ foundB l s.data.toList = false := by
        unfold foundN foundB
        rw [hnone]
        exact ⟨rfl, rfl⟩
      obtain rfl : N = 0 := HNB.out.1.symm.trans hF.1
      obtain rfl : B = false := HNB.out.2.symm.trans hF.2
      clear hF hnone hf
      go_wp2_with fail
      go_ret2
      exact ⟨rfl, Below.next HB1.out HB.out⟩

/-- A folder that has but what there is. -/
theorem ref_one {W : World} {q g n : Nat} {v : Value} {l : Names} {J : Nat → Prop} (hq : W.heap[q]? = some (.cells #[.slice (some ⟨g, 0, none⟩) 1 1, .int .i64 (n : Int)] 59 (0, 0))) (hg : W.heap[g]? = some (.cells #[v] 64 (0, 0)))
    (hv : W.ownsRow 0 68 2 v l.length (nams l)) (hJ : J q ∧ J g ∧ ∀ k, v.ownBlock = some k → J k) (hr : Rising l) (hl : l.length ≤ 100000) (hn : n ≤ 100000) (hm : ∀ k, J k → k < W.heap.size) : RefAt W q [l] n J := by
  refine ⟨⟨_, [v], hq, ⟨rfl, .inr ⟨g, 1, #[v], rfl, Nat.zero_le _, hg, Nat.le_refl _, by unfold maxLen; omega, rfl, rfl⟩⟩, rfl, hJ.1, fun k hk => ?_, fun i hi => ?_⟩, Nat.le_refl _, fun i hi => ?_, ⟨by simp, hn, fun i hi => ?_⟩, hm⟩
  · cases hk
    exact hJ.2.1
  · obtain rfl : i = 0 := by simpa using hi
    exact ⟨v, rfl, hv, hJ.2.2⟩
  · obtain rfl : i = 0 := by simpa using hi
    exact hr
  · obtain rfl : i = 0 := by simpa using hi
    exact hl

set_option maxHeartbeats 1000000 in
set_option maxRecDepth 100000 in
theorem refNew_any (w : World) : Calls Try.prog 9 #[] w fun e w' => ∃ q J, e = .returned (.pointer (some ⟨q, 0, none⟩)) ∧ RefAt w' q [[]] 0 J ∧ (∀ g, J g → w.heap.size ≤ g) ∧ Below w.heap.size w w' := by
  go_enter Try.func9, Try.ntmps9
  go_wp2
  go_ret
  have hz : (w.alloc (.cells #[.slice none 0 0] 64)).heap.size = w.heap.size + 1 := by simp
  have h1 := (MapKept.heap_alloc (w.alloc (.cells #[.slice none 0 0] 64)) (.cells #[.slice (some ⟨w.heap.size, 0, none⟩) 1 1, .int .i64 0] 59)).1
  rw [hz] at h1
  have h0 := (MapKept.heap_alloc w (.cells #[.slice none 0 0] 64)).1
  have hb := below_alloc' (o := .cells #[.slice (some ⟨w.heap.size, 0, none⟩) 1 1, .int .i64 0] 59) (Below.refl _ (w.alloc (.cells #[.slice none 0 0] 64)))
  have h0' := (hb.block w.heap.size (by omega)).trans h0
  exact ⟨w.heap.size + 1, fun k => k = w.heap.size ∨ k = w.heap.size + 1, rfl, ref_one (n := 0) h1 h0' (World.ownsRow_nil _ 0 68 2) ⟨.inr rfl, .inl rfl, fun k hk => by cases hk⟩ Rising.nil (by simp) (by omega) (fun k hk => by simp; omega), fun k hk => by omega, Below.next (below_alloc' (Below.refl _ w)) hb⟩

theorem texts_snoc (l : Names) (k : Nat) (h : k < l.length) : textsOf (l.take (k + 1)) = textsOf (l.take k) ++ [strO (nam l k).1] := by
  rw [List.take_succ_eq_append_getElem h, nam_lt h]
  unfold textsOf
  rw [List.map_append]
  rfl

set_option maxHeartbeats 1000000 in
set_option maxRecDepth 100000 in
theorem refNames_any {w : World} {q n : Nat} {Ws : List Names} {J : Nat → Prop} (h : RefAt w q Ws n J) :
    Calls Try.prog 46 #[.pointer (some ⟨q, 0, none⟩)] w fun e w' => ∃ v, e = .returned v ∧ w'.ownsRow w.heap.size 9 1 v (nowN Ws).length ((textsOf (nowN Ws)).map Value.string) ∧ Below w.heap.size w w' := by
  have Q39 := Lib.hid (refNow_any h)
  have hll : (nowN Ws).length ≤ 100000 := by
    have := h.some
    rw [nowN_at this]
    exact h.small.2.2 _ (by omega)
  obtain ⟨l, hl⟩ : ∃ l, nowN Ws = l := ⟨_, rfl⟩
  rw [hl] at Q39 hll ⊢
  clear h hl
  go_enter Try.func46, Try.ntmps46
  go_upto_block 0 with (go_at_call 39; (with_reducible refine Q39.out.mono ?_); rintro e w1 ⟨v, rfl, ⟨r1, _⟩, b1⟩; have HN := Lib.hid (nams_cell ((nams_of_owns r1).below b1)); have HB1 := Lib.hid b1; clear r1 b1)
  obtain ⟨ad, cp, rfl, hc⟩ := HN.out
  have HC := Lib.hid hc
  obtain ⟨i0, hi, hz1, hz2, hz3⟩ := info_parts i9n
  have hz0 := HB1.out.size
  clear hc HN Q39
  go_wp2_with fail
  go_loopw [3, 5] (fun s3 s5 wr => ∃ k : Nat, k ≤ l.length ∧ s5 = .int .i64 k ∧ wr.ownsRow w1.heap.size 9 1 s3 k ((textsOf (l.take k)).map Value.string) ∧ Below w1.heap.size w1 wr) (fun _ s5 _ => l.length - (intOf s5).toNat)
  case atStart => exact ⟨0, Nat.zero_le _, rfl, World.ownsRow_nil _ _ _ _, Below.refl _ _⟩
  case round =>
    obtain ⟨k, hk, rfl, hown, hb⟩ := hrel
    have HB := Lib.hid hb
    have hz2' := hb.size
    clear hb
    by_cases hlt : k < l.length
    · have e1 : decide ((k : Int) < (l.length : Int)) = true := decide_eq_true (by omega)
      have e1' : decide (k < l.length) = true := decide_eq_true hlt
      obtain ⟨b, o, rfl, hE⟩ := HC.out k hlt
      obtain ⟨h1, h2⟩ := hE.below HB.out
      have hsn := texts_snoc l k hlt
      obtain ⟨y, hy⟩ : ∃ y, strO (nam l k).1 = y := ⟨_, rfl⟩
      rw [hy] at h1 hsn
      have HS := Lib.hid hsn
      have HOW := Lib.hid hown
      clear hy hE hsn h2 hown
      go_wp2_with (at_builtin; refine wpList_append_own_at _ rfl _ _ 44 rfl w1.heap.size 9 i0 (.string ⟨#[]⟩) 1 16 Try.underlying44 hi hz1 hz2 hz3 rfl (by decide) _ _ _ rfl (HOW.out.alloc _) ⟨wr.heap.size, 0, none⟩ 1 1 [.string y] rfl rfl (cell_one_new _ _ _) (by simp [Value.oneCell']) (by unfold maxLen; omega) (by omega) (by simp; omega) ?_; intro v' w' o1 g1 _ _)
      exact ⟨⟨k + 1, by omega, by go_num, by rw [HS.out, List.map_append]; exact o1, (below_alloc' HB.out).grown g1 (by simp; omega) (fun j hj => (HOW.out.lt j hj).1)⟩, by simp [intOf]; omega⟩
    · have e1 : decide ((k : Int) < (l.length : Int)) = false := decide_eq_false (by omega)
      have e1' : decide (k < l.length) = false := decide_eq_false hlt
      obtain rfl : k = l.length := by omega
      rw [List.take_length] at hown
      have HOW := Lib.hid hown
      clear hown
      go_wp2_with fail
      go_ret
      exact ⟨_, rfl, owns_weaken HOW.out (by omega), Below.next HB1.out HB.out⟩
end Go.Proofs.Ytfjgefnklelnnaa

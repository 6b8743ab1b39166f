/-
  All names that are there, rising. What holds of every folder: its names rise, each with a number of its own, from 1 to the greatest one.
-/
import Derived.Test.YtmmoilmfpiclgaaGreatT16
import Derived.Test.YtmmoilmfpiclgaaGreatT20
import Derived.Maps.OwnIn
set_option linter.unusedVariables false
set_option linter.unusedSimpArgs false
namespace Go.Proofs.YtmmoilmfpiclgaaGreat.Fld
open Go.RowKit Go.Shelf
set_option linter.unusedSectionVars false
variable [FoldIn]

attribute [local go_sem] Oper.semAt_some

theorem sorted_keys {L : Names} (h : Rising L) {ss : List (List UInt8)} (hp : ss.Perm (L.map (·.1))) : ss.mergeSort (fun x y => decide (x ≤ y)) = L.map (·.1) := by
  have hs : (L.map (·.1)).Pairwise (fun a b => a < b) := List.pairwise_map.2 h
  have h1 : (ss.mergeSort (fun x y => decide (x ≤ y))).Pairwise (fun a b => decide (a ≤ b) = true) := List.pairwise_mergeSort (le := fun x y : List UInt8 => decide (x ≤ y)) (fun a b c h1 h2 => decide_eq_true (List.le_trans (of_decide_eq_true h1) (of_decide_eq_true h2))) (fun a b => by
    rcases List.le_total a b with h | h
    · simp [h]
    · simp [h]) ss
  refine List.Perm.eq_of_pairwise (le := fun a b => decide (a ≤ b) = true) (fun a b _ _ h1 h2 => List.le_antisymm (of_decide_eq_true h1) (of_decide_eq_true h2)) h1 (hs.imp fun {a b} hab => decide_eq_true (List.le_of_lt hab)) ((List.mergeSort_perm ss _).trans hp)

/-- The names of a list, as strings. -/
def textsOf (L : Names) : List ByteArray := L.map fun p => strO p.1
theorem textsOf_length (L : Names) : (textsOf L).length = L.length := List.length_map ..

theorem texts_of_row {w : World} {base : Nat} {v : Value} {ts : List ByteArray} {n : Nat} (hn : ts.length = n) (h : w.ownsRow base 9 1 v n (ts.map Value.string)) (hb0 : base < w.heap.size) : ∃ b, base ≤ b ∧ b < w.heap.size ∧ TextsV b w v ts := by
  rcases h.2 with ⟨rfl, h0⟩ | ⟨g, cap, cur, rfl, hbg, hg, _, _, _, ht⟩
  · exact ⟨base, Nat.le_refl _, hb0, .inl ⟨rfl, List.length_eq_zero_iff.1 (by omega)⟩⟩
  · refine ⟨g, hbg, (Array.getElem?_eq_some_iff.1 hg).1, .inr ⟨0, cap, by rw [hn], fun j hj => ?_⟩⟩
    rw [Nat.zero_add, cell_of_row w g j cur 9 (0, 0) hg, ← Array.getElem?_toList]
    have hx : (ts.map Value.string)[j]? = some (.string (atS ts j)) := by simp [atS, hj]
    rw [← ht, List.getElem?_take] at hx
    split at hx
    · exact hx
    · cases hx

theorem owns_weaken {w : World} {base base' size n : Nat} {e : TypeId} {v : Value} {xs : List Value} (h : w.ownsRow base e size v n xs) (hb : base' ≤ base) : w.ownsRow base' e size v n xs := by
  refine ⟨h.1, ?_⟩
  rcases h.2 with h' | ⟨g, cap, cur, rfl, h2, h3⟩
  · exact .inl h'
  · exact .inr ⟨g, cap, cur, rfl, Nat.le_trans hb h2, h3⟩
theorem row_shape {w : World} {base size n : Nat} {e : TypeId} {v : Value} {xs : List Value} (h : w.ownsRow base e size v n xs) : ∃ ad c, v = .slice ad n c := by
  rcases h.2 with ⟨rfl, h0⟩ | ⟨g, cap, cur, rfl, _⟩
  · exact ⟨none, 0, by rw [h0]⟩
  · exact ⟨_, cap, rfl⟩
theorem keys_texts (L : Names) : (L.map (·.1)).map encStr = (textsOf L).map Value.string := by
  unfold textsOf
  rw [List.map_map, List.map_map]
  rfl

set_option maxHeartbeats 2000000 in
set_option maxRecDepth 100000 in
theorem rising_in {w : World} {mv : Value} {L : Names} (h : MapIs w mv L) (hl : L.length ≤ 1000000) (n : Nat) (hn : n = 6) :
    CallsIn Fence.wide n Tryz.prog 135 #[mv] w fun e w' => ∃ B sv b, e = .returned (.func (.func 147) #[] #[.pointer (some ⟨B, 0, none⟩)]) ∧ w'.heap[B]? = some (.cells #[sv] 62 (0, 0)) ∧ w.heap.size ≤ b ∧ b < w'.heap.size ∧ TextsV b w' sv (textsOf L) ∧ Below w.heap.size w w' := by
  subst hn
  have h50 : Fence.wide.fn 135 := trivial
  have h59 : Fence.wide.fn 144 := trivial
  have h58 : Fence.wide.fn 143 := trivial
  have h57 : Fence.wide.fn 142 := trivial
  have fin : ∀ (w1 : World) (v : Value) (b : Nat), Below w.heap.size w w1 → w.heap.size ≤ b → b < w1.heap.size → TextsV b w1 v (textsOf L) → ∃ B sv b, (Value.func (.func 147) #[] #[.pointer (some ⟨w1.heap.size, 0, none⟩)]) = (.func (.func 147) #[] #[.pointer (some ⟨B, 0, none⟩)]) ∧ (w1.alloc (.cells #[v] 62)).heap[B]? = some (.cells #[sv] 62 (0, 0)) ∧ w.heap.size ≤ b ∧ b < (w1.alloc (.cells #[v] 62)).heap.size ∧ TextsV b (w1.alloc (.cells #[v] 62)) sv (textsOf L) ∧ Below w.heap.size w (w1.alloc (.cells #[v] 62)) := fun w1 v b hb h1 h2 ht => by
    have hb1 := below_alloc' (o := .cells #[v] 62) (Below.refl _ w1)
    exact ⟨_, v, b, rfl, heap_alloc_new w1 _, h1, by have := hb1.size; omega, ht.kept (KB.same (hb1.block b h2)), Below.next hb hb1⟩
  have FIN := Lib.hid fin
  clear fin
  rcases h with ⟨rfl, rfl⟩ | ⟨b, rfl, h⟩
  · refine callsIn_of_wp Tryz.func135 rfl h50 ?_ rfl
    simp only [Tryz.ntmps135, List.size_toArray, List.length_cons, List.length_nil, Nat.reduceAdd, Nat.reduceSub, Array.replicate_succ, Array.replicate_zero, List.push_toArray, List.append_toArray, List.nil_append, List.cons_append]
    gi_wp2_with (first
      | (gi_at_call 144; refine (Tryz.maps_Keys_144 _ _).mono ?_; rintro e w' ⟨rfl, rfl⟩)
      | (gi_at_call 143; refine (Tryz.slices_Sorted_keys_nil_143_59 w).mono ?_; rintro e w' ⟨v, ss, rfl, hS, hrow, hnil, hb⟩; have hv0 := hnil.2 hS; subst hv0; have HR := Lib.hid hb; clear hrow hnil hb)
      | (gi_at_call 142; refine (values_in _ _ _ _ _).mono ?_; rintro e w'' ⟨rfl, rfl⟩))
    go_ret
    have hz := HR.out.size
    obtain ⟨B, sv, b, q1, q2⟩ := FIN.out w' _ w.heap.size (Below.next (below_alloc' (Below.refl _ w)) HR.out) (Nat.le_refl _) (by simp at hz; omega) (.inl ⟨rfl, rfl⟩)
    exact ⟨B, sv, b, congrArg Ending.returned q1, q2⟩
  · have hown := h.1
    have hrise := h.2
    have hsz : Maps.size (datD L) = L.length := size_dat L
    have hmax : Maps.size (datD L) ≤ maxLen := by rw [hsz]; unfold maxLen; omega
    have hby : Maps.size (datD L) * 16 ≤ 140737488355328 := by rw [hsz]; omega
    have HS := Lib.hid (Tryz.slices_Sorted_keys_143_59 b L.length (datD L) (plainElem Tryz.prog 3) w hown hmax hby)
    have HK := Lib.hid hrise
    clear hown hrise h hmax hby hsz
    refine callsIn_of_wp Tryz.func135 rfl h50 ?_ rfl
    simp only [Tryz.ntmps135, List.size_toArray, List.length_cons, List.length_nil, Nat.reduceAdd, Nat.reduceSub, Array.replicate_succ, Array.replicate_zero, List.push_toArray, List.append_toArray, List.nil_append, List.cons_append]
    gi_wp2_with (first
      | (gi_at_call 144; refine (Tryz.maps_Keys_144 _ _).mono ?_; rintro e w' ⟨rfl, rfl⟩)
      | (gi_at_call 143; refine HS.out.mono ?_; rintro e w' ⟨v, ss, rfl, hS, hrow, hnil, hb⟩; rw [keys_dat] at hS; have hsl := hS.length_eq; rw [sorted_keys HK.out hS] at hrow; rw [List.length_map] at hsl; rw [hsl, keys_texts] at hrow; have hrow' := owns_weaken (base' := w.heap.size) hrow (by simp); have hz := hb.size; have ht := texts_of_row (textsOf_length L) hrow' (by simp at hz; omega); obtain ⟨ad, c, hv⟩ := row_shape hrow; subst hv; have HR := Lib.hid (And.intro ht hb); clear hrow hrow' hnil hb hS hsl ht hz)
      | (gi_at_call 142; refine (values_in _ _ _ _ _).mono ?_; rintro e w'' ⟨rfl, rfl⟩))
    go_ret
    obtain ⟨⟨b', t1, t2, t3⟩, hb⟩ := HR.out
    obtain ⟨B, sv, b, q1, q2⟩ := FIN.out w' _ b' (Below.next (below_alloc' (Below.refl _ w)) hb) t1 t2 t3
    exact ⟨B, sv, b, congrArg Ending.returned q1, q2⟩

theorem i9n : (Tryz.prog.info? 9).map (fun i => (i.zero, i.size, i.bytes)) = some (some (.string ⟨#[]⟩), 1, 16) := by kernel_rfl

set_option maxHeartbeats 4000000 in
set_option maxRecDepth 100000 in
theorem names_any {w : World} {p : Nat} {S : FS} {av : Value} {fs : List Value} {M I : Nat → Prop} (h : FolderS w p S av fs M I) (hl : S.weight ≤ 90000) :
    Calls Tryz.prog 90 #[.pointer (some ⟨p, 0, none⟩)] w fun e w' => ∃ v, e = .returned v ∧ w'.ownsRow w.heap.size 9 1 v (textsOf S.there).length ((textsOf S.there).map Value.string) ∧ Below w.heap.size w w' := by
  obtain ⟨L0, A, n⟩ := S
  have h' : FolderIn w p L0 A n av fs M I := h
  obtain ⟨lv, tv, h1, _, h3, _⟩ := h'.it
  have hw : L0.length + A.length + n ≤ 90000 := hl
  obtain ⟨T, hT⟩ : ∃ T, actsOn L0 A = T := ⟨_, rfl⟩
  have hTl : T.length ≤ 90000 := by rw [← hT]; have := actsOn_length L0 A; omega
  rw [show FS.there ⟨L0, A, n⟩ = T from hT]
  rw [hT] at h3
  obtain ⟨ts, hts⟩ : ∃ ts, textsOf T = ts := ⟨_, rfl⟩
  have htl : ts.length ≤ 90000 := by rw [← hts, textsOf_length]; exact hTl
  obtain ⟨w0, hw0⟩ : ∃ w0, w.alloc (.cells #[.slice none 0 0] 62) = w0 := ⟨_, rfl⟩
  have hb0 : Below w.heap.size w w0 := by rw [← hw0]; exact below_alloc' (Below.refl _ w)
  have hz0 : w0.heap.size = w.heap.size + 1 := by rw [← hw0]; simp
  have bO : Boxed w0 w.heap.size 62 (.slice none 0 0) := by rw [← hw0]; exact Boxed.new w 62 _
  have t0 : Four w0 p lv av tv (.int .i64 (n : Int)) := h1.same (hb0.block p h1.lt)
  have k2 := t0.at2
  have m0 : MapIs w0 tv T := h3.same fun b hb => hb0.block b (h3.lt hb)
  have HR := Lib.hid fun n hn => rising_in m0 (by omega) n hn
  obtain ⟨m, rfl⟩ := h3.shape
  have HB := Lib.hid bO
  have HB0 := Lib.hid hb0
  clear h h' h1 h3 t0 m0 bO hb0
  rw [hts] at HR ⊢
  clear hT hts hTl
  refine (callsIn_wide (n := 7)).1 ?_
  obtain ⟨i0, hi, hz1, hz2, hz3⟩ := info_parts i9n
  have h28 : Fence.wide.fn 90 := trivial
  have h50 : Fence.wide.fn 135 := trivial
  have h65 : Fence.wide.fn 147 := trivial
  refine callsIn_of_wp_marks Tryz.func90 rfl h28 ?_ rfl
  simp only [Tryz.ntmps90, List.size_toArray, List.length_cons, List.length_nil, Nat.reduceAdd, Nat.reduceSub, Array.replicate_succ, Array.replicate_zero, List.push_toArray, List.append_toArray, List.nil_append, List.cons_append]
  gi_wp2_with (gi_at_call 135; (with_reducible refine (HR.out _ rfl).mono ?_); rintro e w1 ⟨B, sv, b, rfl, r1, r2, r3, r4, r5⟩; have HS := Lib.hid (And.intro r1 (And.intro r2 (And.intro r3 (And.intro r4 r5)))); clear r1 r2 r3 r4 r5)
  obtain ⟨s1, s2, s3, s4, s5⟩ := HS.out
  have hz1' := s5.size
  have hBlt : B < w1.heap.size := (Array.getElem?_eq_some_iff.1 s1).1
  have hO1 : Boxed w1 w.heap.size 62 (.slice none 0 0) := (s5.block _ (by omega)).trans HB.out
  have hBw : Below w.heap.size w w1 := Below.next HB0.out s5
  refine wpIn_rangeFunc_ownG rfl (by omega) (gf := 147) (lb := #[.pointer (some ⟨B, 0, none⟩)]) rfl h65 (enters_of Tryz.func147 (by kernel_rfl) rfl)
    (values_stops _ (by omega) B b sv ts (by omega) w1 hBlt s3 (by rw [cell_of_row _ _ _ _ _ _ s1]; rfl) s4) KB.trans (KB_b s3) (Below.refl _ _) (fun _ => rfl)
    (fun pre W => (∃ v, Boxed W w.heap.size 62 v ∧ W.ownsRow w.heap.size 9 1 v pre.length (pre.map Value.string) ∧ (∀ g, v.ownBlock = some g → w1.heap.size ≤ g)) ∧ Below w.heap.size w W ∧ w1.heap.size ≤ W.heap.size)
    (fun _ _ _ => False)
    ?own (fun _ _ _ _ _ hs _ _ => hs)
    ⟨⟨_, hO1, World.ownsRow_nil _ _ _ _, fun g hg => by cases hg⟩, hBw, Nat.le_refl _⟩
    (fun x => { tmps := #[.pointer (some ⟨p, 0, none⟩), undef, .slice none 0 0, .pointer (some ⟨w.heap.size, 0, none⟩), .string x, .pointer (some ⟨p, 0, none⟩), .bool false, .pointer (some ⟨p, 0, none⟩), .pointer (some ⟨p, 0, none⟩), .pointer (some ⟨p, 2, none⟩), .map m, .func (.func 147) #[] #[.pointer (some ⟨B, 0, none⟩)], .string x, undef, undef, undef, undef, undef], defers := [] }) ?assign ?body ?done ?stop
  case own =>
    rintro s X Y row ⟨⟨v, hv, hr, hG⟩, hX, hsX⟩ hg hrow
    refine ⟨⟨v, hv.kept hg (fun e' => ?_), hr.kept hg ?_, hG⟩, hX.grown hg hX.size (fun k e => by have := (hrow k e).1; omega), Nat.le_trans hsX hg.size⟩
    · obtain ⟨_, o, ho, hc⟩ := hrow _ e'.symm
      rw [show X.heap[w.heap.size]? = _ from hv] at ho; cases ho; cases hc
    · rcases hr.2 with ⟨rfl, _⟩ | ⟨g, cap, cur, rfl, _, hgb, _⟩
      · exact .inl rfl
      · refine .inr fun e' => ?_
        obtain ⟨_, o, ho, hc⟩ := hrow g (by simpa [Value.ownBlock] using e'.symm)
        rw [hgb] at ho; cases ho; cases hc
  case assign =>
    intro l x W K hK
    gi_wp2
    exact hK
  case body =>
    rintro l pre x W ⟨⟨v, hv, hrow, hg⟩, hB, hsz⟩ hlt
    have hc := hv.cell
    gi_wp2_with (gi_at_builtin; refine wpListIn_append_own_at _ rfl _ _ 62 rfl w.heap.size 9 i0 (.string ⟨#[]⟩) 1 16 Tryz.underlying62 hi hz1 hz2 hz3 rfl (by decide) _ _ _ rfl (hrow.alloc _) ⟨W.heap.size, 0, none⟩ 1 1 [.string x] rfl rfl (cell_one_new _ _ _) (by simp [Value.oneCell']) (by unfold maxLen; omega) (by omega) (by have := hB.size; simp; omega) ?_; intro v' w2 hown' hgrow _ hloc; obtain ⟨g', cap', rfl⟩ := ownsRow_succ hown'; obtain ⟨hv1, hv2, hr2, hk2, hb2⟩ := hv.appended (by decide) hrow hB.size (Nat.le_refl _) hown' hgrow; have hc1 := hv1.cell; have hf1 := hv1.frozen)
    have hsz2 := hb2.size
    have hgz := hgrow.size
    have hgb : ∀ g, (Value.slice (some ⟨g', 0, none⟩) (pre.length + 1) cap').ownBlock = some g → w1.heap.size ≤ g := fun g hg2 => by
      rcases hloc with e | e
      · exact hg g (e.symm.trans hg2)
      · have e2 := Option.some.inj (e.symm.trans hg2)
        rw [← e2]; simp; omega
    refine ⟨hk2.from _, KB.same ?_, ⟨_, hv2, by simpa using hr2, hgb⟩, hB.trans hb2, by omega⟩
    have hbW : b < W.heap.size := by omega
    refine (heap_setCell_ne (fun e => by omega)).trans ((hgrow.block b (by simp; omega) (fun e => ?_)).trans ((below_alloc' (Below.refl _ W)).block b hbW))
    have := hg b e.symm
    omega
  case done =>
    rintro D ys W hD rfl ⟨⟨v, hv, hrow, hg⟩, hB, hsz⟩ hK
    have hc := hv.cell
    gi_wp2
    refine ⟨by simp, .inl ⟨_, _, rfl, run_takeDeferred hK, ?_⟩⟩
    exact ⟨_, results_tmp rfl _ _ _, v, rfl, by simpa using ownsRow_putObj hrow _ hK rfl, hB.trans (belowK_b (w := w) (Nat.le_refl _) W D _ _ (by omega) hK rfl rfl)⟩
  case stop =>
    rintro D c pre W _ _ h _
    exact h.elim
end Go.Proofs.YtmmoilmfpiclgaaGreat.Fld
namespace Go.Proofs.YtmmoilmfpiclgaaGreat.Fld
open Go.RowKit Go.Shelf

structure GoodN (L : Names) (n : Nat) : Prop where
  rising : Rising L
  range : ∀ p ∈ L, 1 ≤ p.2 ∧ p.2 ≤ n
  one : ∀ p ∈ L, ∀ q ∈ L, p.2 = q.2 → p = q
  short : ∀ p ∈ L, p.1.length ≤ 64

theorem GoodN.mono {L : Names} {n m : Nat} (h : GoodN L n) (hm : n ≤ m) : GoodN L m := ⟨h.rising, fun p hp => ⟨(h.range p hp).1, Nat.le_trans (h.range p hp).2 hm⟩, h.one, h.short⟩
theorem GoodN.nil (n : Nat) : GoodN [] n := ⟨Rising.nil, (fun p hp => by cases hp), (fun p hp => by cases hp), (fun p hp => by cases hp)⟩
theorem GoodN.without {L : Names} {n : Nat} (h : GoodN L n) (k : List UInt8) : GoodN (withoutT L k) n := ⟨h.rising.without k, fun p hp => h.range p (mem_without.1 hp).1, fun p hp q hq => h.one p (mem_without.1 hp).1 q (mem_without.1 hq).1, fun p hp => h.short p (mem_without.1 hp).1⟩
theorem GoodN.with {L : Names} {n : Nat} (h : GoodN L n) (k : List UInt8) (m : Nat) (h1 : 1 ≤ m ∧ m ≤ n) (h2 : ∀ p ∈ L, p.1 ≠ k → p.2 ≠ m) (h3 : k.length ≤ 64) : GoodN (withT L k m) n := by
  refine ⟨h.rising.with k m, fun p hp => ?_, fun p hp q hq e => ?_, fun p hp => ?_⟩
  · rcases mem_with.1 hp with rfl | ⟨hp, _⟩
    · exact h1
    · exact h.range p hp
  · rcases mem_with.1 hp with rfl | ⟨hp, hpk⟩
    · rcases mem_with.1 hq with rfl | ⟨hq, hqk⟩
      · rfl
      · exact absurd e.symm (h2 q hq hqk)
    · rcases mem_with.1 hq with rfl | ⟨hq, hqk⟩
      · exact absurd e (h2 p hp hpk)
      · exact h.one p hp q hq e
  · rcases mem_with.1 hp with rfl | ⟨hp, _⟩
    · exact h3
    · exact h.short p hp

def FS.good (S : FS) : Prop := ∀ i, GoodN (actsOn S.L0 (S.A.take i)) S.n
theorem FS.good.there {S : FS} (h : S.good) : GoodN S.there S.n := by
  have := h S.A.length
  rwa [List.take_length] at this
theorem good_new : FS.new.good := fun i => by
  show GoodN (actsOn [] (([] : List FAct).take i)) 0
  rw [List.take_nil]
  exact GoodN.nil 0

theorem good_snoc {L0 : Names} {A : List FAct} {n m : Nat} {x : FAct} (h : FS.good ⟨L0, A, n⟩) (hm : n ≤ m) (hx : GoodN (x.on (actsOn L0 A)) m) : FS.good ⟨L0, A ++ [x], m⟩ := fun i => by
  show GoodN (actsOn L0 ((A ++ [x]).take i)) m
  by_cases hi : i ≤ A.length
  · rw [List.take_append_of_le_length hi]
    exact (h i).mono hm
  · rw [List.take_of_length_le (by rw [List.length_append]; simp; omega), actsOn_snoc]
    exact hx

theorem foundB_true {L : Names} {k : List UInt8} (h : foundB L k = true) (hr : Rising L) : (k, foundN L k) ∈ L := by
  unfold foundB at h
  unfold foundN
  cases hf : findT L k with
  | none => rw [hf] at h; cases h
  | some m => exact (find_some hr).1 hf
theorem foundB_false {L : Names} {k : List UInt8} (h : foundB L k = false) : ∀ p ∈ L, p.1 ≠ k := by
  unfold foundB at h
  cases hf : findT L k with
  | none => exact find_none.1 hf
  | some m => rw [hf] at h; cases h
theorem foundN_none {L : Names} {k : List UInt8} (h : foundB L k = false) : foundN L k = 0 := by
  unfold foundB at h
  unfold foundN
  cases hf : findT L k with
  | none => rfl
  | some m => rw [hf] at h; cases h
theorem GoodN.found {L : Names} {n : Nat} (h : GoodN L n) (k : List UInt8) : foundN L k ≤ n := by
  cases hb : foundB L k with
  | true => exact (h.range _ (foundB_true hb h.rising)).2
  | false => rw [foundN_none hb]; omega

theorem may_short {s : ByteArray} (h : ¬ mayB s = false) : s.data.toList.length ≤ 64 := by
  unfold mayB at h
  have h2 : 0 < s.size ∧ s.size ≤ 64 := Decidable.byContradiction fun hn => h (decide_eq_false hn)
  have h3 : s.data.toList.length = s.size := Array.length_toList
  omega
theorem good_create {S : FS} (h : S.good) (s : ByteArray) : (S.create s).1.good := by
  obtain ⟨L0, A, n⟩ := S
  unfold FS.create
  split
  · exact h
  · rename_i hmay
    split
    · exact h
    · refine good_snoc h (Nat.le_succ n) ((h.there.mono (Nat.le_succ n)).with _ _ ⟨by omega, Nat.le_refl _⟩ (fun p hp _ => ?_) (may_short hmay))
      have h2 : p.2 ≤ n := (h.there.range p hp).2
      show p.2 ≠ n + 1
      omega
theorem good_remove {S : FS} (h : S.good) (s : ByteArray) : (S.remove s).1.good := by
  obtain ⟨L0, A, n⟩ := S
  unfold FS.remove
  split
  · exact h
  · exact good_snoc h (Nat.le_refl n) (h.there.without _)
theorem good_rename {S : FS} (h : S.good) (a b : ByteArray) : (S.rename a b).1.good := by
  obtain ⟨L0, A, n⟩ := S
  unfold FS.rename
  split
  · exact h
  · rename_i hmay
    split
    · exact h
    · rename_i hb
      have hb : foundB (FS.there ⟨L0, A, n⟩) a.data.toList = true := by
        cases hq : foundB (FS.there ⟨L0, A, n⟩) a.data.toList with
        | true => rfl
        | false => exact absurd hq hb
      have hm := foundB_true hb h.there.rising
      refine good_snoc h (Nat.le_refl n) ((h.there.without _).with _ _ (h.there.range _ hm) (fun p hp _ e => ?_) (may_short hmay))
      obtain ⟨hp, hpk⟩ := mem_without.1 hp
      have := h.there.one p hp _ hm e
      rw [this] at hpk
      exact hpk rfl
theorem good_survive {S : FS} (h : S.good) (k : Int) : (S.survive k).good := fun i => by
  show GoodN (actsOn (actsOn S.L0 (S.A.take (upTo k S.A.length))) (([] : List FAct).take i)) S.n
  rw [List.take_nil]
  exact h _
theorem good_sync {S : FS} (h : S.good) : S.sync.good := fun i => by
  show GoodN (actsOn S.there (([] : List FAct).take i)) S.n
  rw [List.take_nil]
  exact h.there

theorem weight_create (S : FS) (s : ByteArray) : (S.create s).1.weight ≤ S.weight + 2 := by
  unfold FS.create
  split
  · exact Nat.le_add_right _ _
  · split
    · exact Nat.le_add_right _ _
    · unfold FS.weight; simp; omega
theorem weight_remove (S : FS) (s : ByteArray) : (S.remove s).1.weight ≤ S.weight + 1 := by
  unfold FS.remove
  split
  · exact Nat.le_add_right _ _
  · unfold FS.weight; simp; omega
theorem weight_rename (S : FS) (a b : ByteArray) : (S.rename a b).1.weight ≤ S.weight + 1 := by
  unfold FS.rename
  split
  · exact Nat.le_add_right _ _
  · split
    · exact Nat.le_add_right _ _
    · unfold FS.weight; simp; omega
theorem weight_survive (S : FS) (k : Int) : (S.survive k).weight ≤ S.weight := by
  have := actsOn_length S.L0 (S.A.take (upTo k S.A.length))
  rw [List.length_take] at this
  unfold FS.survive FS.weight
  simp only [List.length_nil]
  omega
theorem weight_sync (S : FS) : S.sync.weight ≤ S.weight := by
  have := actsOn_length S.L0 S.A
  unfold FS.sync FS.weight FS.there
  simp only [List.length_nil]
  omega

/-- The names that the statements use. -/
def nameT (n : Nat) : ByteArray :=
  match n % 7 with
  | 0 => ⟨#[97]⟩
  | 1 => ⟨#[98]⟩
  | 2 => ⟨#[109, 97, 110, 105, 102, 101, 115, 116]⟩
  | 3 => ⟨#[119, 97, 108, 45, 49]⟩
  | 4 => ⟨#[115, 101, 103, 45, 50]⟩
  | 5 => ⟨#[116, 109, 112]⟩
  | _ => ⟨#[99]⟩
theorem nameT_cases (n : Nat) : nameT n = ⟨#[97]⟩ ∨ nameT n = ⟨#[98]⟩ ∨ nameT n = ⟨#[109, 97, 110, 105, 102, 101, 115, 116]⟩ ∨ nameT n = ⟨#[119, 97, 108, 45, 49]⟩ ∨ nameT n = ⟨#[115, 101, 103, 45, 50]⟩ ∨ nameT n = ⟨#[116, 109, 112]⟩ ∨ nameT n = ⟨#[99]⟩ := by
  unfold nameT
  split <;> simp
theorem nameT_size (n : Nat) : 1 ≤ (nameT n).size ∧ (nameT n).size ≤ 8 := by
  rcases nameT_cases n with h | h | h | h | h | h | h <;> rw [h] <;> exact ⟨by decide, by decide⟩
theorem nameT_may (n : Nat) : mayB (nameT n) = true := by
  obtain ⟨h1, h2⟩ := nameT_size n
  exact decide_eq_true ⟨by omega, by omega⟩

/-- What an act of the statements does. -/
def FS.does (S : FS) (what a b : Nat) : FS :=
  if what % 3 = 0 then (S.create (nameT a)).1 else if what % 3 = 1 then (S.rename (nameT a) (nameT b)).1 else (S.remove (nameT a)).1
theorem good_does {S : FS} (h : S.good) (what a b : Nat) : (S.does what a b).good := by
  unfold FS.does
  split
  · exact good_create h _
  · split
    · exact good_rename h _ _
    · exact good_remove h _
theorem weight_does (S : FS) (what a b : Nat) : (S.does what a b).weight ≤ S.weight + 2 := by
  unfold FS.does
  split
  · exact weight_create S _
  · split
    · exact Nat.le_succ_of_le (weight_rename S _ _)
    · exact Nat.le_succ_of_le (weight_remove S _)
end Go.Proofs.YtmmoilmfpiclgaaGreat.Fld

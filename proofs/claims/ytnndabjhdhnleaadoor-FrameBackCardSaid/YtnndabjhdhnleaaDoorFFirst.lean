/-
  What frame.Get asks: six things, one after the other.
-/
import Derived.Test.YtnndabjhdhnleaaDoorFPut
import Derived.Test.YtnndabjhdhnleaaDoorBoxes
namespace Go.Proofs.YtnndabjhdhnleaaDoor
open Go.RowKit

theorem six_any (bs ba bh bo : Nat) (s : ByteArray) (k h : Nat) (v : Value) (W : World) (hF : Fours W) (hkh : k ≤ h) (hsz : h ≤ s.size) (hsm : s.size ≤ 1000000) (hs : Boxed W bs 9 (.string s)) (ha : Boxed W ba 3 (.int .i64 (k : Int))) (hh : Boxed W bh 3 (.int .i64 (h : Int))) (ho : Boxed W bo 9 v) :
    Calls Tryd.prog 36 #[.pointer (some ⟨bs, 0, none⟩), .pointer (some ⟨ba, 0, none⟩), .pointer (some ⟨bh, 0, none⟩), .pointer (some ⟨bo, 0, none⟩)] W fun e w' =>
      e = .returned (.int .i64 (if isSeal (s.extract k h) = true then 0 else 16)) ∧ ∃ W1, Below W.heap.size W W1 ∧ w' = W1.setCell ⟨bo, 0, none⟩ (.string (opened (s.extract k h))) := by
  have c1 := hs.cell
  have c2 := ha.cell
  have c3 := hh.cell
  obtain ⟨B, hB⟩ : ∃ B, s.extract k h = B := ⟨_, rfl⟩
  have hBs : B.size ≤ 281474976710656 := by rw [← hB, ByteArray.size_extract]; omega
  have q := unless_any
  have q37 := open_any B W hF hBs
  obtain ⟨b, hb⟩ : ∃ b, isSeal B = b := ⟨_, rfl⟩
  obtain ⟨O, hO⟩ : ∃ O, opened B = O := ⟨_, rfl⟩
  rw [hB, hb, hO]
  rw [hb, hO] at q37
  have i1 : (k : Int) ≤ (h : Int) := by omega
  have i2 : (h : Int) ≤ (s.size : Int) := by omega
  have hoc : ∀ w1, Below W.heap.size W w1 → w1.cell? ⟨bo, 0, none⟩ = some v ∧ w1.frozen? ⟨bo, 0, none⟩ = false := fun w1 h1 => ⟨(boxed_below ho h1).cell, (boxed_below ho h1).frozen⟩
  have HB := Lib.hid hB
  have HC := Lib.hid hoc
  have e3 := HB.out
  clear hs ha hh ho hb hO hB hoc hF
  cases b
  all_goals
    go_enter Tryd.func36, Tryd.ntmps36
    go_wp2_with (first
      | (go_at_call 37; go_must (refine q37.mono ?_); rintro e w1 ⟨rfl, hb1⟩; obtain ⟨d1, d2⟩ := HC.out _ hb1)
      | (go_at_call 30; go_must (refine (q _ _ _).mono ?_); rintro e w2 ⟨rfl, rfl⟩))
    go_ret
    exact ⟨rfl, w1, hb1, rfl⟩

/-- How one of the six things goes: on to the next one, or an error. -/
def Goes (I : Nat → World → Prop) (X : Nat → World → Prop) (k : Nat) (e : Ending) (w' : World) : Prop :=
  (e = .returned (.int .i64 0) ∧ I (k + 1) w') ∨ ∃ x : Nat, x ≠ 0 ∧ e = .returned (.int .i64 (x : Int)) ∧ X x w'

/-- The six things, as function values. -/
def six (bs ba bm bf bh bo : Nat) : Array Value :=
  #[.func (.func 29) #[] #[.pointer (some ⟨ba, 0, none⟩), .pointer (some ⟨bs, 0, none⟩)], .func (.func 31) #[] #[.pointer (some ⟨ba, 0, none⟩), .pointer (some ⟨bs, 0, none⟩)],
    .func (.func 32) #[] #[.pointer (some ⟨bs, 0, none⟩), .pointer (some ⟨ba, 0, none⟩), .pointer (some ⟨bm, 0, none⟩), .pointer (some ⟨bf, 0, none⟩)], .func (.func 34) #[] #[.pointer (some ⟨bm, 0, none⟩)],
    .func (.func 35) #[] #[.pointer (some ⟨bf, 0, none⟩), .pointer (some ⟨bm, 0, none⟩), .pointer (some ⟨bh, 0, none⟩), .pointer (some ⟨bs, 0, none⟩)],
    .func (.func 36) #[] #[.pointer (some ⟨bs, 0, none⟩), .pointer (some ⟨ba, 0, none⟩), .pointer (some ⟨bh, 0, none⟩), .pointer (some ⟨bo, 0, none⟩)]]

def sixCells (bF bs ba bm bf bh bo : Nat) (W : World) : Prop := W.heap[bF]? = some (.cells (six bs ba bm bf bh bo) 60 (0, 0))

theorem first_six (bF bs ba bm bf bh bo : Nat) (w : World) (I : Nat → World → Prop) (X : Nat → World → Prop) (hc : ∀ k W, I k W → sixCells bF bs ba bm bf bh bo W)
    (g1 : ∀ W, I 0 W → Calls Tryd.prog 29 #[.pointer (some ⟨ba, 0, none⟩), .pointer (some ⟨bs, 0, none⟩)] W (Goes I X 0))
    (g2 : ∀ W, I 1 W → Calls Tryd.prog 31 #[.pointer (some ⟨ba, 0, none⟩), .pointer (some ⟨bs, 0, none⟩)] W (Goes I X 1))
    (g3 : ∀ W, I 2 W → Calls Tryd.prog 32 #[.pointer (some ⟨bs, 0, none⟩), .pointer (some ⟨ba, 0, none⟩), .pointer (some ⟨bm, 0, none⟩), .pointer (some ⟨bf, 0, none⟩)] W (Goes I X 2))
    (g4 : ∀ W, I 3 W → Calls Tryd.prog 34 #[.pointer (some ⟨bm, 0, none⟩)] W (Goes I X 3))
    (g5 : ∀ W, I 4 W → Calls Tryd.prog 35 #[.pointer (some ⟨bf, 0, none⟩), .pointer (some ⟨bm, 0, none⟩), .pointer (some ⟨bh, 0, none⟩), .pointer (some ⟨bs, 0, none⟩)] W (Goes I X 4))
    (g6 : ∀ W, I 5 W → Calls Tryd.prog 36 #[.pointer (some ⟨bs, 0, none⟩), .pointer (some ⟨ba, 0, none⟩), .pointer (some ⟨bh, 0, none⟩), .pointer (some ⟨bo, 0, none⟩)] W (Goes I X 5))
    (h0 : I 0 w) :
    Calls Tryd.prog 28 #[.slice (some ⟨bF, 0, none⟩) 6 6] w (Goes I X 5) := by
  go_enter Tryd.func28, Tryd.ntmps28
  go_wp2
  go_loopw [4, 5, 8] (fun _ _ i wr => ∃ k : Nat, k ≤ 6 ∧ i = .int .i64 k ∧ I k wr) (fun _ _ i _ => 6 - (intOf i).toNat)
  case atStart => exact ⟨0, by omega, rfl, h0⟩
  case round =>
    obtain ⟨k, hk, rfl, hI⟩ := hrel
    have hcells := hc _ _ hI
    rcases (show k = 6 ∨ k = 0 ∨ k = 1 ∨ k = 2 ∨ k = 3 ∨ k = 4 ∨ k = 5 by omega) with rfl | rfl | rfl | rfl | rfl | rfl | rfl
    · clear hcells
      go_wp2
      go_ret
      exact .inl ⟨rfl, hI⟩
    · have hcell : wr.cell? ⟨bF, 0, none⟩ = some (.func (.func 29) #[] #[.pointer (some ⟨ba, 0, none⟩), .pointer (some ⟨bs, 0, none⟩)]) := by rw [Lib.cell_of_heap hcells]; rfl
      have q := g1 _ hI
      clear hcells g1 g2 g3 g4 g5 g6 hc
      go_wp2_with (go_at_call 29; go_must (refine q.mono ?_); rintro e w1 (⟨rfl, hI1⟩ | ⟨x, hx, rfl, hX⟩))
      · exact ⟨⟨1, by omega, rfl, hI1⟩, by simp [intOf]⟩
      · go_ret
        exact .inr ⟨x, hx, rfl, hX⟩
    · have hcell : wr.cell? ⟨bF, 1, none⟩ = some (.func (.func 31) #[] #[.pointer (some ⟨ba, 0, none⟩), .pointer (some ⟨bs, 0, none⟩)]) := by rw [Lib.cell_of_heap hcells]; rfl
      have q := g2 _ hI
      clear hcells g1 g2 g3 g4 g5 g6 hc
      go_wp2_with (go_at_call 31; go_must (refine q.mono ?_); rintro e w1 (⟨rfl, hI1⟩ | ⟨x, hx, rfl, hX⟩))
      · exact ⟨⟨2, by omega, rfl, hI1⟩, by simp [intOf]⟩
      · go_ret
        exact .inr ⟨x, hx, rfl, hX⟩
    · have hcell : wr.cell? ⟨bF, 2, none⟩ = some (.func (.func 32) #[] #[.pointer (some ⟨bs, 0, none⟩), .pointer (some ⟨ba, 0, none⟩), .pointer (some ⟨bm, 0, none⟩), .pointer (some ⟨bf, 0, none⟩)]) := by rw [Lib.cell_of_heap hcells]; rfl
      have q := g3 _ hI
      clear hcells g1 g2 g3 g4 g5 g6 hc
      go_wp2_with (go_at_call 32; go_must (refine q.mono ?_); rintro e w1 (⟨rfl, hI1⟩ | ⟨x, hx, rfl, hX⟩))
      · exact ⟨⟨3, by omega, rfl, hI1⟩, by simp [intOf]⟩
      · go_ret
        exact .inr ⟨x, hx, rfl, hX⟩
    · have hcell : wr.cell? ⟨bF, 3, none⟩ = some (.func (.func 34) #[] #[.pointer (some ⟨bm, 0, none⟩)]) := by rw [Lib.cell_of_heap hcells]; rfl
      have q := g4 _ hI
      clear hcells g1 g2 g3 g4 g5 g6 hc
      go_wp2_with (go_at_call 34; go_must (refine q.mono ?_); rintro e w1 (⟨rfl, hI1⟩ | ⟨x, hx, rfl, hX⟩))
      · exact ⟨⟨4, by omega, rfl, hI1⟩, by simp [intOf]⟩
      · go_ret
        exact .inr ⟨x, hx, rfl, hX⟩
    · have hcell : wr.cell? ⟨bF, 4, none⟩ = some (.func (.func 35) #[] #[.pointer (some ⟨bf, 0, none⟩), .pointer (some ⟨bm, 0, none⟩), .pointer (some ⟨bh, 0, none⟩), .pointer (some ⟨bs, 0, none⟩)]) := by rw [Lib.cell_of_heap hcells]; rfl
      have q := g5 _ hI
      clear hcells g1 g2 g3 g4 g5 g6 hc
      go_wp2_with (go_at_call 35; go_must (refine q.mono ?_); rintro e w1 (⟨rfl, hI1⟩ | ⟨x, hx, rfl, hX⟩))
      · exact ⟨⟨5, by omega, rfl, hI1⟩, by simp [intOf]⟩
      · go_ret
        exact .inr ⟨x, hx, rfl, hX⟩
    · have hcell : wr.cell? ⟨bF, 5, none⟩ = some (.func (.func 36) #[] #[.pointer (some ⟨bs, 0, none⟩), .pointer (some ⟨ba, 0, none⟩), .pointer (some ⟨bh, 0, none⟩), .pointer (some ⟨bo, 0, none⟩)]) := by rw [Lib.cell_of_heap hcells]; rfl
      have q := g6 _ hI
      clear hcells g1 g2 g3 g4 g5 g6 hc
      go_wp2_with (go_at_call 36; go_must (refine q.mono ?_); rintro e w1 (⟨rfl, hI1⟩ | ⟨x, hx, rfl, hX⟩))
      · exact ⟨⟨6, by omega, rfl, hI1⟩, by simp [intOf]⟩
      · go_ret
        exact .inr ⟨x, hx, rfl, hX⟩

/-- What holds when so many of the six things have been asked, and held. -/
structure GetI (s : ByteArray) (a : Int) (w : World) (bF bs ba bm bf bh bo : Nat) (k : Nat) (W : World) : Prop where
  it : ∃ (m : Nat) (f h : Int) (o : ByteArray), sixCells bF bs ba bm bf bh bo W ∧ Boxed W bs 9 (.string s) ∧ Boxed W ba 3 (.int .i64 a) ∧ Boxed W bm 47 (.int .u64 (m : Int)) ∧ Boxed W bf 3 (.int .i64 f) ∧ Boxed W bh 3 (.int .i64 h) ∧ Boxed W bo 9 (.string o) ∧
    Below w.heap.size w W ∧ (1 ≤ k → 0 ≤ a ∧ a ≤ (s.size : Int)) ∧ (2 ≤ k → a < (s.size : Int)) ∧ (3 ≤ k → Plain.get s.data.toList a = (m, f, 0)) ∧ (4 ≤ k → fits m = true) ∧ (5 ≤ k → h = ((f.toNat + m + 4 : Nat) : Int) ∧ f.toNat + m + 4 ≤ s.size) ∧
    (6 ≤ k → isSeal (s.extract a.toNat (f.toNat + m + 4)) = true ∧ o = opened (s.extract a.toNat (f.toNat + m + 4)))

/-- What holds when one of them did not. -/
structure GetX (s : ByteArray) (a : Int) (w : World) (ba : Nat) (x : Nat) (W : World) : Prop where
  ha : Boxed W ba 3 (.int .i64 a)
  hb : Below w.heap.size w W
  he : fget s a = (⟨#[]⟩, a, x)

theorem sixCells_set {bF bs ba bm bf bh bo : Nat} {W : World} (h : sixCells bF bs ba bm bf bh bo W) {b : Nat} (hne : bF ≠ b) (v : Value) : sixCells bF bs ba bm bf bh bo (W.setCell ⟨b, 0, none⟩ v) :=
  (Below.heap_setCell W ⟨b, 0, none⟩ v bF hne).trans h

theorem boxed_set_other {W : World} {b c : Nat} {t : TypeId} {u v : Value} (h : Boxed W b t u) (hne : b ≠ c) : Boxed (W.setCell ⟨c, 0, none⟩ v) b t u :=
  h.kept (grownBy_setCell' W c v) (fun e => hne (by injection e))

theorem get_first (s : ByteArray) (a : Int) (w W : World) (bF bs ba bm bf bh bo : Nat) (hF : Fours w) (hsz : s.size ≤ 1000000) (hsB : w.heap.size ≤ bs) (h1 : bs < ba) (h2 : ba < bm) (h3 : bm < bf) (h4 : bf < bh) (h5 : bh < bo) (h6 : bo < bF)
    (h0 : GetI s a w bF bs ba bm bf bh bo 0 W) :
    Calls Tryd.prog 28 #[.slice (some ⟨bF, 0, none⟩) 6 6] W (Goes (GetI s a w bF bs ba bm bf bh bo) (GetX s a w ba) 5) := by
  refine first_six bF bs ba bm bf bh bo W (GetI s a w bF bs ba bm bf bh bo) (GetX s a w ba) (fun k W h => by obtain ⟨_, _, _, _, h, _⟩ := h.it; exact h) ?_ ?_ ?_ ?_ ?_ ?_ h0
  · intro W hI
    obtain ⟨m, f, h, o, c, cs, ca, cm, cf, ch, co, hb, k1, k2, k3, k4, k5, k6⟩ := hI.it
    refine (one_any bs ba s a W cs ca).mono ?_
    rintro e w' ⟨rfl, rfl⟩
    by_cases hx : a < 0 ∨ (s.size : Int) < a
    · rw [if_pos hx]
      exact .inr ⟨2, by decide, rfl, ca, hb, fget_out hx⟩
    · rw [if_neg hx]
      exact .inl ⟨rfl, m, f, h, o, c, cs, ca, cm, cf, ch, co, hb, fun _ => by omega, fun _ => by omega, fun _ => by omega, fun _ => by omega, fun _ => by omega, fun _ => by omega⟩
  · intro W hI
    obtain ⟨m, f, h, o, c, cs, ca, cm, cf, ch, co, hb, k1, k2, k3, k4, k5, k6⟩ := hI.it
    refine (two_any bs ba s a W cs ca).mono ?_
    rintro e w' ⟨rfl, rfl⟩
    have k1' := k1 (by omega)
    by_cases hx : a < (s.size : Int)
    · rw [if_pos hx]
      exact .inl ⟨rfl, m, f, h, o, c, cs, ca, cm, cf, ch, co, hb, fun _ => k1', fun _ => hx, fun _ => by omega, fun _ => by omega, fun _ => by omega, fun _ => by omega⟩
    · rw [if_neg hx]
      exact .inr ⟨9, by decide, rfl, ca, hb, fget_end (by omega)⟩
  · intro W hI
    obtain ⟨m, f, h, o, c, cs, ca, cm, cf, ch, co, hb, k1, k2, k3, k4, k5, k6⟩ := hI.it
    have k1' := k1 (by omega)
    have k2' := k2 (by omega)
    refine (three_any bs ba bm bf s a _ rfl _ _ W (by unfold maxLen; omega) cs ca cm cf (by omega)).mono ?_
    rintro e w' ⟨rfl, rfl⟩
    have c' := sixCells_set (sixCells_set c (show bF ≠ bm by omega) (.int .u64 ((Plain.get s.data.toList a).1 : Int))) (show bF ≠ bf by omega) (.int .i64 (Plain.get s.data.toList a).2.1)
    have cs' : Boxed ((W.setCell ⟨bm, 0, none⟩ (.int .u64 ((Plain.get s.data.toList a).1 : Int))).setCell ⟨bf, 0, none⟩ (.int .i64 (Plain.get s.data.toList a).2.1)) bs 9 (.string s) := boxed_set_other (boxed_set_other cs (by omega)) (by omega)
    have ca' : Boxed ((W.setCell ⟨bm, 0, none⟩ (.int .u64 ((Plain.get s.data.toList a).1 : Int))).setCell ⟨bf, 0, none⟩ (.int .i64 (Plain.get s.data.toList a).2.1)) ba 3 (.int .i64 a) := boxed_set_other (boxed_set_other ca (by omega)) (by omega)
    have cm' : Boxed ((W.setCell ⟨bm, 0, none⟩ (.int .u64 ((Plain.get s.data.toList a).1 : Int))).setCell ⟨bf, 0, none⟩ (.int .i64 (Plain.get s.data.toList a).2.1)) bm 47 (.int .u64 ((Plain.get s.data.toList a).1 : Int)) := boxed_set_other (cm.set _) (by omega)
    have cf' : Boxed ((W.setCell ⟨bm, 0, none⟩ (.int .u64 ((Plain.get s.data.toList a).1 : Int))).setCell ⟨bf, 0, none⟩ (.int .i64 (Plain.get s.data.toList a).2.1)) bf 3 (.int .i64 (Plain.get s.data.toList a).2.1) := (boxed_set_other cf (by omega)).set _
    have ch' : Boxed ((W.setCell ⟨bm, 0, none⟩ (.int .u64 ((Plain.get s.data.toList a).1 : Int))).setCell ⟨bf, 0, none⟩ (.int .i64 (Plain.get s.data.toList a).2.1)) bh 3 (.int .i64 h) := boxed_set_other (boxed_set_other ch (by omega)) (by omega)
    have co' : Boxed ((W.setCell ⟨bm, 0, none⟩ (.int .u64 ((Plain.get s.data.toList a).1 : Int))).setCell ⟨bf, 0, none⟩ (.int .i64 (Plain.get s.data.toList a).2.1)) bo 9 (.string o) := boxed_set_other (boxed_set_other co (by omega)) (by omega)
    have hb' : Below w.heap.size w ((W.setCell ⟨bm, 0, none⟩ (.int .u64 ((Plain.get s.data.toList a).1 : Int))).setCell ⟨bf, 0, none⟩ (.int .i64 (Plain.get s.data.toList a).2.1)) :=
      (hb.setCell (p := ⟨bm, 0, none⟩) (by show w.heap.size ≤ bm; omega) _).setCell (p := ⟨bf, 0, none⟩) (by show w.heap.size ≤ bf; omega) _
    by_cases hx : (Plain.get s.data.toList a).2.2 = 0
    · rw [hx]
      exact .inl ⟨rfl, _, _, h, o, c', cs', ca', cm', cf', ch', co', hb', fun _ => k1', fun _ => k2', fun _ => by rw [← hx], fun _ => by omega, fun _ => by omega, fun _ => by omega⟩
    · exact .inr ⟨_, hx, rfl, ca', hb', fget_num k1'.1 k2' rfl hx⟩
  · intro W hI
    obtain ⟨m, f, h, o, c, cs, ca, cm, cf, ch, co, hb, k1, k2, k3, k4, k5, k6⟩ := hI.it
    have k1' := k1 (by omega)
    have k2' := k2 (by omega)
    have k3' := k3 (by omega)
    refine (four_any' bm m W cm).mono ?_
    rintro e w' ⟨rfl, rfl⟩
    by_cases hx : fits m = true
    · rw [if_pos hx]
      exact .inl ⟨rfl, m, f, h, o, c, cs, ca, cm, cf, ch, co, hb, fun _ => k1', fun _ => k2', fun _ => k3', fun _ => hx, fun _ => by omega, fun _ => by omega⟩
    · rw [if_neg hx]
      exact .inr ⟨4, by decide, rfl, ca, hb, fget_long k1'.1 k2' k3' (by simpa using hx)⟩
  · intro W hI
    obtain ⟨m, f, h, o, c, cs, ca, cm, cf, ch, co, hb, k1, k2, k3, k4, k5, k6⟩ := hI.it
    have k1' := k1 (by omega)
    have k2' := k2 (by omega)
    have k3' := k3 (by omega)
    have k4' := k4 (by omega)
    obtain ⟨k', u, hk, hn, hu, hku, _⟩ := Plain.get_ok (s := s.data.toList) (p := a) (by rw [k3'])
    rw [k3'] at hn
    dsimp only at hn
    rw [ba_length] at hku
    obtain ⟨F, hF'⟩ : ∃ F : Nat, f = (F : Int) := ⟨k' + u, hn⟩
    subst hF'
    have hm300 := (fits_true k4').2
    refine (five_any bs bm bf bh s m F _ W hm300 (by omega) cs cm cf ch (by omega)).mono ?_
    rintro e w' ⟨rfl, rfl⟩
    have ca' : Boxed (W.setCell ⟨bh, 0, none⟩ (.int .i64 ((F + m + 4 : Nat) : Int))) ba 3 (.int .i64 a) := boxed_set_other ca (by omega)
    have hb' : Below w.heap.size w (W.setCell ⟨bh, 0, none⟩ (.int .i64 ((F + m + 4 : Nat) : Int))) := hb.setCell (p := ⟨bh, 0, none⟩) (by show w.heap.size ≤ bh; omega) _
    by_cases hx : s.size < F + m + 4
    · rw [if_pos hx]
      exact .inr ⟨3, by decide, rfl, ca', hb', fget_short k1'.1 k2' k3' k4' (by rw [Int.toNat_natCast]; exact hx)⟩
    · rw [if_neg hx]
      exact .inl ⟨rfl, m, F, _, o, sixCells_set c (by omega) _, boxed_set_other cs (by omega), ca', boxed_set_other cm (by omega), boxed_set_other cf (by omega), ch.set _, boxed_set_other co (by omega), hb', fun _ => k1', fun _ => k2', fun _ => k3', fun _ => k4',
        fun _ => ⟨by rw [Int.toNat_natCast], by rw [Int.toNat_natCast]; omega⟩, fun _ => by omega⟩
  · intro W hI
    obtain ⟨m, f, h, o, c, cs, ca, cm, cf, ch, co, hb, k1, k2, k3, k4, k5, k6⟩ := hI.it
    have k1' := k1 (by omega)
    have k2' := k2 (by omega)
    have k3' := k3 (by omega)
    have k4' := k4 (by omega)
    obtain ⟨rfl, k5'⟩ := k5 (by omega)
    obtain ⟨k', u, hk, hn, hu, hku, _⟩ := Plain.get_ok (s := s.data.toList) (p := a) (by rw [k3'])
    rw [k3'] at hn
    dsimp only at hn
    subst hk
    refine (six_any bs ba bh bo s k' (f.toNat + m + 4) _ W (hF.below hb) (by omega) k5' hsz cs ca ch co).mono ?_
    rintro e w' ⟨rfl, W1, hb1, rfl⟩
    have ca' : Boxed (W1.setCell ⟨bo, 0, none⟩ (.string (opened (s.extract k' (f.toNat + m + 4))))) ba 3 (.int .i64 (k' : Int)) := boxed_set_other (boxed_below ca hb1) (by omega)
    have hb' : Below w.heap.size w (W1.setCell ⟨bo, 0, none⟩ (.string (opened (s.extract k' (f.toNat + m + 4))))) := (Below.next hb hb1).setCell (p := ⟨bo, 0, none⟩) (by show w.heap.size ≤ bo; omega) _
    by_cases hx : isSeal (s.extract k' (f.toNat + m + 4)) = true
    · rw [if_pos hx]
      exact .inl ⟨rfl, m, f, _, _, sixCells_set ((hb1.block bF (Array.getElem?_eq_some_iff.1 c).1).trans c) (by omega) _, boxed_set_other (boxed_below cs hb1) (by omega), ca', boxed_set_other (boxed_below cm hb1) (by omega), boxed_set_other (boxed_below cf hb1) (by omega), boxed_set_other (boxed_below ch hb1) (by omega), (boxed_below co hb1).set _, hb', fun _ => k1', fun _ => k2', fun _ => k3', fun _ => k4',
        fun _ => ⟨rfl, k5'⟩, fun _ => by rw [Int.toNat_natCast]; exact ⟨hx, rfl⟩⟩
    · rw [if_neg hx]
      exact .inr ⟨16, by decide, rfl, ca', hb', fget_sum k1'.1 k2' k3' k4' (by omega) (by rw [Int.toNat_natCast]; simpa using hx)⟩

end Go.Proofs.YtnndabjhdhnleaaDoor

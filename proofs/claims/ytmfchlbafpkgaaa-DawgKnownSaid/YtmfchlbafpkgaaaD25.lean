/-
  Arcs in memory; the closures that look at each out. The least of a state's outs; what is taken off each of them.
-/
import Derived.Test.YtmfchlbafpkgaaaD03
import Derived.Test.YtmfchlbafpkgaaaD24
import Derived.Test.YtmfchlbafpkgaaaD05
import Derived.Deep.RegionHeld3
import Derived.BigRegion
import Derived.RegionTactic
set_option linter.unusedVariables false
set_option linter.unusedSimpArgs false
namespace Go.Proofs.Ytmfchlbafpkgaaa
open Go.RowKit Go.Shelf

def arcAt (l : List DArc) (i : Nat) : DArc := l.getD i default
theorem arcAt_lt {l : List DArc} {i : Nat} (h : i < l.length) : arcAt l i = l[i] := by simp [arcAt, List.getD, h]

/-- An arc lies there. -/
def ArcIn (w : World) (b o : Nat) (a : DArc) : Prop :=
  w.cell? ⟨b, o, none⟩ = some (.int .u8 (a.b : Int)) ∧ w.cell? ⟨b, o + 1, none⟩ = some (.int .u64 (a.out : Int)) ∧ w.cell? ⟨b, o + 2, none⟩ = some (.int .i64 a.to)

/-- v is a slice that holds these arcs. -/
def Arcs (w : World) (v : Value) (l : List DArc) : Prop :=
  ∃ ad c, v = .slice ad l.length c ∧ ∀ i, i < l.length → ∃ b o, ad = some ⟨b, o, none⟩ ∧ ArcIn w b (o + i * 3) (arcAt l i)

/-- A box of one number. -/
def NumB (w : World) (c n : Nat) : Prop := w.heap[c]? = some (.cells #[.int .u64 (n : Int)] 63 (0, 0))
theorem NumB.at {w : World} {c n : Nat} (h : NumB w c n) : w.cell? ⟨c, 0, none⟩ = some (.int .u64 (n : Int)) := by rw [cell_of_row w c 0 _ _ _ h]; rfl
theorem NumB.free {w : World} {c n : Nat} (h : NumB w c n) (o : Nat) : w.frozen? ⟨c, o, none⟩ = false := by
  unfold NumB at h
  simp [World.frozen?, h]
theorem NumB.lt {w : World} {c n : Nat} (h : NumB w c n) : c < w.heap.size := (Array.getElem?_eq_some_iff.1 h).1
theorem NumB.set {w : World} {c n : Nat} (h : NumB w c n) (m : Nat) : NumB (w.setCell ⟨c, 0, none⟩ (.int .u64 (m : Int))) c m := cells_setCell h 0 _

theorem grownBy_refl (w : World) (row : Option Nat) : w.grownBy w row := ⟨rfl, rfl, rfl, Nat.le_refl _, fun _ _ _ => rfl⟩
theorem grownBy_next {w a b : World} {row : Option Nat} (h : w.grownBy a row) (k : a.grownBy b row) : w.grownBy b row :=
  ⟨k.os.trans h.os, k.tape.trans h.tape, k.output.trans h.output, Nat.le_trans h.size k.size, fun g hg hn => (k.block g (Nat.lt_of_lt_of_le hg h.size) hn).trans (h.block g hg hn)⟩

theorem grownBy_drew {w a : World} {row : Option Nat} (h : w.grownBy a row) : w.grownBy a.drew row := ⟨h.os, h.tape, h.output, h.size, h.block⟩

set_option maxHeartbeats 1000000 in
set_option maxRecDepth 100000 in
theorem least1_any {w : World} {b o c x m : Nat} (hx : w.cell? ⟨b, o, none⟩ = some (.int .u64 (x : Int))) (hm : NumB w c m) :
    Calls Try.prog 105 #[.pointer (some ⟨b, o, none⟩), .pointer (some ⟨c, 0, none⟩)] w fun e w' => e = .returned (.tuple #[]) ∧ NumB w' c (min m x) ∧ w.grownBy w' (some c) := by
  have k0 := hm.at
  have f0 := hm.free 0
  have HM := Lib.hid hm
  clear hm
  go_enter Try.func105, Try.ntmps105
  go_wp2
  go_region
  all_goals go_wp2
  all_goals go_end0
  rw [show (min (m : Int) (x : Int)) = ((min m x : Nat) : Int) by omega]
  exact ⟨rfl, HM.out.set _, grownBy_drew (grown_setCell w c 0 _)⟩

set_option maxHeartbeats 1000000 in
set_option maxRecDepth 100000 in
theorem push1_any {w : World} {b o c x m : Nat} (hx : w.cell? ⟨b, o, none⟩ = some (.int .u64 (x : Int))) (hf : w.frozen? ⟨b, o, none⟩ = false) (hm : NumB w c m) (hle : m ≤ x) (hlt : x < 18446744073709551616) :
    Calls Try.prog 112 #[.pointer (some ⟨b, o, none⟩), .pointer (some ⟨c, 0, none⟩)] w fun e w' => e = .returned (.tuple #[]) ∧ w' = (w.setCell ⟨b, o, none⟩ (.int .u64 ((x - m : Nat) : Int))).drew := by
  have k0 := hm.at
  have e1 : IntKind.u64.wrap ((x : Int) - (m : Int)) = ((x - m : Nat) : Int) := by
    rw [IntWalk.u64_in _ (by omega)]; omega
  clear hm
  go_enter Try.func112, Try.ntmps112
  go_wp2
  go_region
  all_goals go_wp2
  all_goals go_end0
  exact ⟨rfl, rfl⟩

/-- A state's box. -/
def StB (w : World) (p : Nat) (v : Value) (fin : Bool) (out : Nat) : Prop := w.heap[p]? = some (.cells #[v, .bool fin, .int .u64 (out : Int)] 91 (0, 0))
theorem StB.at0 {w : World} {p : Nat} {v : Value} {f : Bool} {n : Nat} (h : StB w p v f n) : w.cell? ⟨p, 0, none⟩ = some v := by rw [cell_of_row w p 0 _ _ _ h]; rfl
theorem StB.at1 {w : World} {p : Nat} {v : Value} {f : Bool} {n : Nat} (h : StB w p v f n) : w.cell? ⟨p, 1, none⟩ = some (.bool f) := by rw [cell_of_row w p 1 _ _ _ h]; rfl
theorem StB.at2 {w : World} {p : Nat} {v : Value} {f : Bool} {n : Nat} (h : StB w p v f n) : w.cell? ⟨p, 2, none⟩ = some (.int .u64 (n : Int)) := by rw [cell_of_row w p 2 _ _ _ h]; rfl
theorem StB.lt {w : World} {p : Nat} {v : Value} {f : Bool} {n : Nat} (h : StB w p v f n) : p < w.heap.size := (Array.getElem?_eq_some_iff.1 h).1

theorem ArcIn.lt {w : World} {b o : Nat} {a : DArc} (h : ArcIn w b o a) : b < w.heap.size := block_lt_of_cell h.1
theorem cell_same {w w' : World} {p : Addr} (h : w'.heap[p.block]? = w.heap[p.block]?) : w'.cell? p = w.cell? p := by
  unfold World.cell?; rw [h]
theorem ArcIn.kept {w w' : World} {b o : Nat} {a : DArc} (h : ArcIn w b o a) (hb : w'.heap[b]? = w.heap[b]?) : ArcIn w' b o a :=
  ⟨(cell_same hb).trans h.1, (cell_same hb).trans h.2.1, (cell_same hb).trans h.2.2⟩

theorem leastO_snoc (m : Nat) (l : List Nat) (x : Nat) : leastO m (l ++ [x]) = min (leastO m l) x := by simp [leastO]
theorem take_out {l : List DArc} {k : Nat} (h : k < l.length) : (l.take (k + 1)).map (·.out) = (l.take k).map (·.out) ++ [(arcAt l k).out] := by
  rw [List.take_add_one, List.map_append, List.getElem?_eq_getElem h, arcAt_lt h]; rfl

set_option maxHeartbeats 1000000 in
set_option maxRecDepth 100000 in
theorem outs_least {w : World} {p c m : Nat} {v : Value} {s : DSt} (hs : StB w p v s.fin s.out) (ha : Arcs w v s.arcs) (hn : s.arcs ≠ [] → ∀ g, v.ownBlock = some g → g ≠ c) (hm : NumB w c m) (hl : s.arcs.length ≤ 1000000) :
    Calls Try.prog 104 #[.pointer (some ⟨p, 0, none⟩), .func (.func 105) #[] #[.pointer (some ⟨c, 0, none⟩)]] w fun e w' => e = .returned (.tuple #[]) ∧ NumB w' c (leastO m s.outs) ∧ w.grownBy w' (some c) := by
  obtain ⟨ad, cp, rfl, hc⟩ := ha
  have k0 := hs.at0
  have HC : Hid (∀ W, w.grownBy W (some c) → ∀ i, i < s.arcs.length → ∃ b o, ad = some ⟨b, o, none⟩ ∧ ArcIn W b (o + i * 3) (arcAt s.arcs i)) := Lib.hid fun W hg i hi => by
    obtain ⟨b, o, rfl, hE⟩ := hc i hi
    exact ⟨b, o, rfl, hE.kept (hg.block b hE.lt (fun e => hn (fun e => by rw [e] at hi; exact absurd hi (Nat.not_lt_zero i)) b rfl (Option.some.inj e)))⟩
  have HS : Hid (∀ W, w.grownBy W (some c) → StB W p (.slice ad s.arcs.length cp) s.fin s.out) := Lib.hid fun W hg => (hg.block p hs.lt (fun e => by
    injection e with e; subst e
    have := hs.symm.trans hm
    cases this)).trans hs
  have HM := Lib.hid hm
  clear hc hn hs hm
  go_enter Try.func104, Try.ntmps104
  go_wp2
  go_loopw [10] (fun s10 wr => ∃ k : Nat, k ≤ s.arcs.length ∧ s10 = .int .i64 k ∧ Hid (w.grownBy wr (some c) ∧ NumB wr c (leastO m ((s.arcs.take k).map (·.out))))) (fun s10 _ => s.arcs.length - (intOf s10).toNat)
  case atStart => exact ⟨0, Nat.zero_le _, rfl, Lib.hid ⟨grownBy_refl _ _, HM.out⟩⟩
  case round =>
    obtain ⟨k, hk, rfl, HR⟩ := hrel
    have k0 := (HS.out wr HR.out.1).at0
    have k1 := (HS.out wr HR.out.1).at1
    by_cases hlt : k < s.arcs.length
    · obtain ⟨b, o, rfl, hE⟩ := HC.out wr HR.out.1 k hlt
      have Q := Lib.hid (least1_any hE.2.1 HR.out.2)
      clear hE
      go_wp2_with (go_at_call 105; (with_reducible refine Q.out.mono ?_); rintro e' w1 ⟨rfl, h1, h2⟩; have H1 := Lib.hid (And.intro h1 h2); clear h1 h2)
      exact ⟨⟨k + 1, by omega, by go_num, Lib.hid ⟨grownBy_next HR.out.1 H1.out.2, by rw [take_out hlt, leastO_snoc]; exact H1.out.1⟩⟩, by simp [intOf]; omega⟩
    · obtain rfl : k = s.arcs.length := by omega
      have k2 := (HS.out wr HR.out.1).at2
      have Q := Lib.hid (least1_any k2 HR.out.2)
      cases hf : s.fin
      · rw [hf] at k1
        go_wp2
        go_end0
        refine ⟨rfl, ?_, HR.out.1⟩
        have := HR.out.2
        rw [List.take_length] at this
        simpa [DSt.outs, hf] using this
      · rw [hf] at k1
        go_wp2_with (go_at_call 105; (with_reducible refine Q.out.mono ?_); rintro e' w1 ⟨rfl, h1, h2⟩; have H1 := Lib.hid (And.intro h1 h2); clear h1 h2)
        go_end0
        refine ⟨rfl, ?_, grownBy_next HR.out.1 H1.out.2⟩
        have := H1.out.1
        rw [List.take_length] at this
        rw [DSt.outs, hf, if_pos rfl, leastO_snoc]
        exact this

end Go.Proofs.Ytmfchlbafpkgaaa
namespace Go.Proofs.Ytmfchlbafpkgaaa
open Go.RowKit Go.Shelf

/-- Only blocks of M have turned. -/
structure Kp (M : Nat → Prop) (w w' : World) : Prop where
  os : w'.os = w.os
  tape : w'.tape = w.tape
  output : w'.output = w.output
  size : w.heap.size ≤ w'.heap.size
  block : ∀ k, k < w.heap.size → ¬ M k → w'.heap[k]? = w.heap[k]?

theorem Kp.refl (M : Nat → Prop) (w : World) : Kp M w w := ⟨rfl, rfl, rfl, Nat.le_refl _, fun _ _ _ => rfl⟩
theorem Kp.trans {M N : Nat → Prop} {w a b : World} (h : Kp M w a) (k : Kp N a b) (hn : ∀ g, N g → M g ∨ w.heap.size ≤ g) : Kp M w b :=
  ⟨k.os.trans h.os, k.tape.trans h.tape, k.output.trans h.output, Nat.le_trans h.size k.size, fun g hg hm => (k.block g (Nat.lt_of_lt_of_le hg h.size) (fun e => by
    rcases hn g e with h' | h'
    · exact hm h'
    · omega)).trans (h.block g hg hm)⟩
theorem Kp.below {M : Nat → Prop} {w w' : World} (h : Below w.heap.size w w') : Kp M w w' := ⟨h.os, h.tape, h.output, h.size, fun k hk _ => h.block k hk⟩
theorem Kp.grown {M : Nat → Prop} {w w' : World} {row : Option Nat} (h : w.grownBy w' row) (hm : ∀ g, row = some g → M g) : Kp M w w' := ⟨h.os, h.tape, h.output, h.size, fun k hk hn => h.block k hk (fun e => hn (hm k e.symm))⟩
theorem Kp.mono {M N : Nat → Prop} {w w' : World} (h : Kp M w w') (hm : ∀ g, M g → N g ∨ w.heap.size ≤ g) : Kp N w w' := ⟨h.os, h.tape, h.output, h.size, fun k hk hn => h.block k hk (fun e => by
  rcases hm k e with h' | h'
  · exact hn h'
  · omega)⟩
theorem Kp.to {M : Nat → Prop} {base : Nat} {w w' : World} (h : Kp M w w') (hb : base ≤ w.heap.size) (hm : ∀ g, M g → base ≤ g) : Below base w w' := ⟨h.os, h.tape, h.output, h.size, fun k hk => h.block k (by omega) (fun e => by have := hm k e; omega)⟩
theorem Kp.drew {M : Nat → Prop} {w w' : World} (h : Kp M w w') : Kp M w w'.drew := ⟨h.os, h.tape, h.output, h.size, h.block⟩

theorem arcsC_length (l : List DArc) : (arcsC l).length = l.length * 3 := by
  unfold arcsC
  induction l with
  | nil => rfl
  | cons x l ih => rw [List.flatMap_cons, List.length_append, ih]; simp [arcC]; omega
theorem arcsC_append (A B : List DArc) : arcsC (A ++ B) = arcsC A ++ arcsC B := by simp [arcsC]
theorem arcsC_cons (x : DArc) (l : List DArc) : arcsC (x :: l) = arcC x ++ arcsC l := by simp [arcsC]
theorem arcsC_get : ∀ (l : List DArc) (i c : Nat), i < l.length → c < 3 → (arcsC l)[i * 3 + c]? = (arcC (arcAt l i))[c]?
  | [], i, c, h, _ => by simp at h
  | x :: l, 0, c, _, hc => by
    rw [arcsC_cons, Nat.zero_mul, Nat.zero_add, List.getElem?_append_left (by simp [arcC]; omega)]
    rfl
  | x :: l, i + 1, c, h, hc => by
    rw [arcsC_cons, List.getElem?_append_right (by simp [arcC]; omega)]
    have := arcsC_get l i c (by simpa using h) hc
    rw [show (i + 1) * 3 + c - (arcC x).length = i * 3 + c by simp [arcC]; omega, this]
    rfl
theorem arcsC_one (l : List DArc) : ∀ u ∈ arcsC l, u.oneCell' = true := by
  intro u hu
  simp only [arcsC, List.mem_flatMap] at hu
  obtain ⟨x, _, hx⟩ := hu
  simp [arcC] at hx
  rcases hx with rfl | rfl | rfl <;> rfl

/-- A row of arcs of one's own. -/
def ARow (w : World) (base : Nat) (v : Value) (l : List DArc) : Prop := w.ownsRow base 93 3 v l.length (arcsC l)

theorem ARow.arcs {w : World} {base : Nat} {v : Value} {l : List DArc} (h : ARow w base v l) : Arcs w v l := by
  rcases id h.2 with ⟨rfl, h0⟩ | ⟨g, cap, cur, rfl, _, hg, _, _, _, ht⟩
  · exact ⟨none, 0, by rw [h0], fun i hi => by omega⟩
  · refine ⟨_, cap, rfl, fun i hi => ⟨g, 0, rfl, ?_⟩⟩
    have h3 : ∀ c, c < 3 → w.cell? ⟨g, 0 + i * 3 + c, none⟩ = (arcC (arcAt l i))[c]? := fun c hc => by
      rw [Nat.zero_add, World.ownsRow.cellAt h _ (by omega)]
      exact arcsC_get l i c hi hc
    exact ⟨h3 0 (by omega), h3 1 (by omega), h3 2 (by omega)⟩
theorem ARow.kp {w w' : World} {base : Nat} {v : Value} {l : List DArc} {M : Nat → Prop} (h : ARow w base v l) (hk : Kp M w w') (hm : ∀ g, v.ownBlock = some g → ¬ M g) : ARow w' base v l :=
  owns_same h fun g hg => hk.block g (h.lt g hg).2 (hm g hg)

/-- So many arcs less. -/
def mixed (l : List DArc) (n k : Nat) : List DArc := (l.take k).map (DArc.less n) ++ l.drop k
theorem mixed_zero (l : List DArc) (n : Nat) : mixed l n 0 = l := by simp [mixed]
theorem mixed_all (l : List DArc) (n : Nat) : mixed l n l.length = l.map (DArc.less n) := by simp [mixed]
theorem mixed_length (l : List DArc) (n k : Nat) : (mixed l n k).length = l.length := by simp [mixed]; omega
theorem mixed_at {l : List DArc} {n k : Nat} (h : k < l.length) : arcAt (mixed l n k) k = arcAt l k := by
  rw [arcAt_lt (by rw [mixed_length]; exact h), arcAt_lt h]
  simp only [mixed]
  rw [List.getElem_append_right (by simp; omega)]
  simp only [List.length_map, List.length_take, List.getElem_drop]
  congr 1
  omega
theorem mixed_set {l : List DArc} {n k : Nat} (h : k < l.length) : (arcsC (mixed l n k)).set (k * 3 + 1) (.int .u64 (((arcAt l k).out - n : Nat) : Int)) = arcsC (mixed l n (k + 1)) := by
  have hd : l.drop k = arcAt l k :: l.drop (k + 1) := by rw [arcAt_lt h]; exact List.drop_eq_getElem_cons h
  have ht : (l.take (k + 1)).map (DArc.less n) = (l.take k).map (DArc.less n) ++ [(arcAt l k).less n] := by
    rw [List.take_add_one, List.map_append, List.getElem?_eq_getElem h, arcAt_lt h]; rfl
  unfold mixed
  rw [ht, hd, arcsC_append, arcsC_cons, List.append_assoc, arcsC_append, List.singleton_append, arcsC_cons, List.set_append_right _ _ (by rw [arcsC_length, List.length_map, List.length_take]; omega)]
  rw [arcsC_length, List.length_map, List.length_take, Nat.min_eq_left (by omega), show k * 3 + 1 - k * 3 = 1 by omega]
  rfl

theorem leastO_le : ∀ (l : List Nat) (m : Nat), leastO m l ≤ m ∧ ∀ x ∈ l, leastO m l ≤ x
  | [], m => ⟨Nat.le_refl _, by simp⟩
  | x :: l, m => by
    obtain ⟨h1, h2⟩ := leastO_le l (min m x)
    have e : leastO m (x :: l) = leastO (min m x) l := rfl
    rw [e]
    refine ⟨by omega, fun y hy => ?_⟩
    rcases List.mem_cons.1 hy with rfl | hy
    · omega
    · exact h2 y hy
theorem least_arc {s : DSt} {i : Nat} (h : i < s.arcs.length) : s.least ≤ (arcAt s.arcs i).out :=
  (leastO_le s.outs _).2 _ (by rw [DSt.outs, arcAt_lt h]; exact List.mem_append_left _ (List.mem_map.2 ⟨_, List.getElem_mem h, rfl⟩))
theorem least_own {s : DSt} (h : s.fin = true) : s.least ≤ s.out :=
  (leastO_le s.outs _).2 _ (by rw [DSt.outs, if_pos h]; exact List.mem_append_right _ (by simp))
theorem least_lt (s : DSt) : s.least < 18446744073709551616 := Nat.lt_of_le_of_lt (leastO_le s.outs _).1 (by omega)

theorem NumB.kp {w w' : World} {c n : Nat} {M : Nat → Prop} (h : NumB w c n) (hk : Kp M w w') (hm : ¬ M c) : NumB w' c n := (hk.block c h.lt hm).trans h
theorem StB.kp {w w' : World} {p : Nat} {v : Value} {f : Bool} {n : Nat} {M : Nat → Prop} (h : StB w p v f n) (hk : Kp M w w') (hm : ¬ M p) : StB w' p v f n := (hk.block p h.lt hm).trans h
theorem StB.free {w : World} {p : Nat} {v : Value} {f : Bool} {n : Nat} (h : StB w p v f n) (o : Nat) : w.frozen? ⟨p, o, none⟩ = false := by
  unfold StB at h
  simp [World.frozen?, h]
theorem StB.set2 {w : World} {p : Nat} {v : Value} {f : Bool} {n : Nat} (h : StB w p v f n) (m : Nat) : StB (w.setCell ⟨p, 2, none⟩ (.int .u64 (m : Int))) p v f m := cells_setCell h 2 _

set_option maxHeartbeats 1000000 in
set_option maxRecDepth 100000 in
theorem least_any {w : World} {p : Nat} {v : Value} {s : DSt} (hs : StB w p v s.fin s.out) (ha : Arcs w v s.arcs) (hv : s.arcs ≠ [] → ∀ g, v.ownBlock = some g → g < w.heap.size) (hl : s.arcs.length ≤ 1000000) :
    Calls Try.prog 77 #[.pointer (some ⟨p, 0, none⟩)] w fun e w' => e = .returned (.int .u64 (s.least : Int)) ∧ Below w.heap.size w w' := by
  have hb := below_alloc w (.cells #[.int .u64 18446744073709551615] 63)
  have hm : NumB (w.alloc (.cells #[.int .u64 18446744073709551615] 63)) w.heap.size 18446744073709551615 := heap_alloc_new w _
  have Q := Lib.hid (outs_least (w := w.alloc (.cells #[.int .u64 18446744073709551615] 63)) (p := p) (c := w.heap.size) (v := v) (s := s) ((hb.block p hs.lt).trans hs) (by
    obtain ⟨ad, cp, rfl, hc⟩ := ha
    refine ⟨ad, cp, rfl, fun i hi => ?_⟩
    obtain ⟨b, o, rfl, hE⟩ := hc i hi
    exact ⟨b, o, rfl, hE.kept (hb.block b hE.lt)⟩) (fun h0 g hg e => by have := hv h0 g hg; omega) hm hl)
  have HB := Lib.hid hb
  clear hb hm hs ha
  go_enter Try.func77, Try.ntmps77
  go_wp2_with (go_at_call 104; (with_reducible refine Q.out.mono ?_); rintro e' w1 ⟨rfl, h1, h2⟩; have H1 := Lib.hid (And.intro h1 h2); have k9 := h1.at; clear h1 h2)
  go_ret
  refine ⟨rfl, HB.out.trans (Kp.to (Kp.grown (M := fun g => w.heap.size ≤ g) H1.out.2 (fun g e => by cases e; exact Nat.le_refl _)) (by have := HB.out.size; omega) (fun g h => h))⟩

set_option maxHeartbeats 1000000 in
set_option maxRecDepth 100000 in
theorem outs_push {w : World} {p c n base : Nat} {v : Value} {s : DSt} (hs : StB w p v s.fin s.out) (ha : ARow w base v s.arcs) (hm : NumB w c n) (hl : s.arcs.length ≤ 1000000) (ho : s.ok) (hle : ∀ i, i < s.arcs.length → n ≤ (arcAt s.arcs i).out) (hle2 : s.fin = true → n ≤ s.out) :
    Calls Try.prog 104 #[.pointer (some ⟨p, 0, none⟩), .func (.func 112) #[] #[.pointer (some ⟨c, 0, none⟩)]] w fun e w' => e = .returned (.tuple #[]) ∧ StB w' p v s.fin (if s.fin then s.out - n else s.out) ∧ ARow w' base v (s.arcs.map (DArc.less n)) ∧ NumB w' c n ∧ Kp (fun g => v.ownBlock = some g ∨ g = p) w w' := by
  have hpc : p ≠ c := fun e => by
    subst e
    have := hs.symm.trans hm
    cases this
  have hg93 : ∀ g, v.ownBlock = some g → g ≠ p ∧ g ≠ c := fun g hg => by
    rcases ha.2 with ⟨rfl, _⟩ | ⟨g', cap, cur, rfl, _, hgg, _⟩
    · cases hg
    · cases hg
      refine ⟨fun e => ?_, fun e => ?_⟩
      · subst e
        have := hgg.symm.trans hs
        cases this
      · subst e
        have := hgg.symm.trans hm
        cases this
  obtain ⟨ad, cp, rfl, -⟩ := ha.arcs
  have k0 := hs.at0
  have HS : Hid (∀ W, Kp (fun g => (Value.slice ad s.arcs.length cp).ownBlock = some g) w W → StB W p (.slice ad s.arcs.length cp) s.fin s.out) := Lib.hid fun W hg => hs.kp hg (fun e => (hg93 p e).1 rfl)
  have HM : Hid (∀ W, Kp (fun g => (Value.slice ad s.arcs.length cp).ownBlock = some g) w W → NumB W c n) := Lib.hid fun W hg => hm.kp hg (fun e => (hg93 c e).2 rfl)
  have HA := Lib.hid ha
  have HO := Lib.hid ho
  have HL := Lib.hid hle
  have HL2 := Lib.hid hle2
  have HP := Lib.hid hpc
  clear hs hm hg93 ha ho hle hle2 hpc
  go_enter Try.func104, Try.ntmps104
  go_wp2
  go_loopw [10] (fun s10 wr => ∃ k : Nat, k ≤ s.arcs.length ∧ s10 = .int .i64 k ∧ Hid (Kp (fun g => (Value.slice ad s.arcs.length cp).ownBlock = some g) w wr ∧ ARow wr base (.slice ad s.arcs.length cp) (mixed s.arcs n k))) (fun s10 _ => s.arcs.length - (intOf s10).toNat)
  case atStart => exact ⟨0, Nat.zero_le _, rfl, Lib.hid ⟨Kp.refl _ _, by rw [mixed_zero]; exact HA.out⟩⟩
  case round =>
    obtain ⟨k, hk, rfl, HR⟩ := hrel
    have k0 := (HS.out wr HR.out.1).at0
    have k1 := (HS.out wr HR.out.1).at1
    by_cases hlt : k < s.arcs.length
    · obtain ⟨g, rfl⟩ : ∃ g, ad = some ⟨g, 0, none⟩ := by
        rcases HA.out.2 with ⟨h1, h2⟩ | ⟨g', cap, cur, h1, _⟩
        · omega
        · cases h1; exact ⟨_, rfl⟩
      have hE : wr.cell? ⟨g, k * 3 + 1, none⟩ = some (.int .u64 ((arcAt s.arcs k).out : Int)) := by
        obtain ⟨ad2, c2, h1, h2⟩ := HR.out.2.arcs
        rw [mixed_length] at h1 h2
        cases h1
        obtain ⟨b, o, h3, h4⟩ := h2 k hlt
        cases h3
        have := h4.2.1
        rw [mixed_at hlt, Nat.zero_add] at this
        exact this
      have hF : wr.frozen? ⟨g, k * 3 + 1, none⟩ = false := World.ownsRow.frozenAt (by have := HR.out.2; unfold ARow at this; rw [mixed_length] at this; exact this) _
      have hlt64 : (arcAt s.arcs k).out < 18446744073709551616 := (HO.out.1 _ (by rw [arcAt_lt hlt]; exact List.getElem_mem hlt)).2.1
      have Q := Lib.hid (push1_any hE hF (HM.out wr HR.out.1) (HL.out k hlt) hlt64)
      clear hE hF
      go_wp2_with (go_at_call 112; (with_reducible refine Q.out.mono ?_); rintro e' w1 ⟨rfl, h1⟩; have H1 := Lib.hid h1; clear h1)
      refine ⟨⟨k + 1, by omega, by go_num, Lib.hid ?_⟩, by simp [intOf]; omega⟩
      have hst := World.ownsRow.stored (w := wr) (base := base) (e := 93) (size := 3) (g := g) (n := s.arcs.length) (cap := cp) (xs := arcsC (mixed s.arcs n k)) (by have := HR.out.2; unfold ARow at this; rw [mixed_length] at this; exact this) (k * 3 + 1) (.int .u64 (((arcAt s.arcs k).out - n : Nat) : Int))
      rw [mixed_set hlt] at hst
      rw [H1.out]
      refine ⟨(HR.out.1.trans (Kp.grown hst.2 (fun g' e => by cases e; rfl)) (fun g' h => .inl h)).drew, ?_⟩
      unfold ARow
      rw [mixed_length]
      exact hst.1
    · obtain rfl : k = s.arcs.length := by omega
      have k2 := (HS.out wr HR.out.1).at2
      have f2 := (HS.out wr HR.out.1).free 2
      have hmx : ARow wr base (.slice ad s.arcs.length cp) (s.arcs.map (DArc.less n)) := by have := HR.out.2; rwa [mixed_all] at this
      have HMX := Lib.hid hmx
      clear hmx
      cases hf : s.fin
      · rw [hf] at k1
        have h1 := Lib.hid (HS.out wr HR.out.1)
        rw [hf] at h1
        go_wp2
        all_goals go_end0
        all_goals exact ⟨rfl, h1.out, HMX.out, HM.out wr HR.out.1, HR.out.1.mono (fun g h => .inl (.inl h))⟩
      · rw [hf] at k1
        have Q := Lib.hid (push1_any k2 f2 (HM.out wr HR.out.1) (HL2.out hf) HO.out.2)
        clear k2 f2
        go_wp2_with (go_at_call 112; (with_reducible refine Q.out.mono ?_); rintro e' w1 ⟨rfl, h1⟩; have H1 := Lib.hid h1; clear h1)
        go_end0
        have h1 := HS.out wr HR.out.1
        rw [hf] at h1
        have hk1 : Kp (fun g => g = p) wr w1 := by
          rw [H1.out]
          exact (Kp.grown (grown_setCell wr p 2 _) (fun g e => by cases e; rfl)).drew
        refine ⟨rfl, ?_, HMX.out.kp hk1 ?_, (HM.out wr HR.out.1).kp hk1 (fun e => HP.out e.symm), (HR.out.1.mono (fun g h => .inl (.inl h))).trans hk1 (fun g h => .inl (.inr h))⟩
        · rw [H1.out]
          exact h1.set2 _
        · intro g hg e
          subst e
          rcases HMX.out.2 with ⟨h3, _⟩ | ⟨g', cap, cur, h3, _, hgg, _⟩
          · rw [h3] at hg; cases hg
          · rw [h3] at hg; cases hg
            have := hgg.symm.trans h1
            cases this

/-- What push leaves. -/
def Pushed (w : World) (p base : Nat) (v : Value) (s : DSt) (e : Ending) (w' : World) : Prop :=
  e = .returned (.int .u64 (s.least : Int)) ∧ StB w' p v s.push.fin s.push.out ∧ ARow w' base v s.push.arcs ∧ Kp (fun g => v.ownBlock = some g ∨ g = p) w w'

set_option maxHeartbeats 1000000 in
set_option maxRecDepth 100000 in
theorem push_any {w : World} {p base : Nat} {v : Value} {s : DSt} (hs : StB w p v s.fin s.out) (ha : ARow w base v s.arcs) (hl : s.arcs.length ≤ 1000000) (ho : s.ok) :
    Calls Try.prog 100 #[.pointer (some ⟨p, 0, none⟩)] w (Pushed w p base v s) := by
  have hlt : ∀ g, v.ownBlock = some g → g < w.heap.size := fun g hg => (ha.lt g hg).2
  have Q1 := Lib.hid (least_any hs ha.arcs (fun _ => hlt) hl)
  have HS := Lib.hid hs
  have HA := Lib.hid ha
  have HO := Lib.hid ho
  have HLT := Lib.hid hlt
  clear hs ha ho hlt
  go_enter Try.func100, Try.ntmps100
  go_wp2_with (go_at_call 77; (with_reducible refine Q1.out.mono ?_); rintro e' w1 ⟨rfl, h1⟩; have H1 := Lib.hid h1; clear h1)
  have hb2 : Below w.heap.size w (w1.alloc (.cells #[.int .u64 (s.least : Int)] 63)) := H1.out.trans (Below.mono ((Below.refl _ w1).alloc (Nat.le_refl _) _) H1.out.size)
  have hm : NumB (w1.alloc (.cells #[.int .u64 (s.least : Int)] 63)) w1.heap.size s.least := heap_alloc_new w1 _
  have Q2 := Lib.hid (outs_push (w := w1.alloc (.cells #[.int .u64 (s.least : Int)] 63)) (p := p) (c := w1.heap.size) (n := s.least) (base := base) (v := v) (s := s) ((hb2.block p HS.out.lt).trans HS.out)
    (owns_same HA.out fun g hg => hb2.block g (HLT.out g hg)) hm hl HO.out (fun i hi => least_arc hi) (fun hf => least_own hf))
  have HB2 := Lib.hid hb2
  clear hb2 hm
  go_wp2_with (go_at_call 104; (with_reducible refine Q2.out.mono ?_); rintro e' w2 ⟨rfl, h1, h2, h3, h4⟩; have H2 := Lib.hid (And.intro h1 (And.intro h2 h4)); have k9 := h3.at; clear h1 h2 h3 h4)
  go_ret
  exact ⟨rfl, H2.out.1, H2.out.2.1, (Kp.below HB2.out).trans H2.out.2.2 (fun g h => .inl h)⟩

end Go.Proofs.Ytmfchlbafpkgaaa

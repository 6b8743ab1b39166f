/-
  The walk of frame.All: a range over the function that frame.pieces hands back.
-/
import Derived.Test.YtnndabjhdhnleaaDoorFPieces
import Derived.Test.YtnndabjhdhnleaaDoorStrs
namespace Go.Proofs.YtnndabjhdhnleaaDoor
open Go.RowKit Go.Shelf

attribute [local go_sem] Oper.semAt_some

/-- The error that All tells. -/
def toldOf (x : PSt) (e : Nat) : Int := if x.2.2 = true then (if e = 9 then 0 else (e : Int)) else 0

/-- What holds between two pieces. -/
structure AllI (s : ByteArray) (w : World) (b2 b3 b4 bs : Nat) (x : PSt) (W : World) : Prop where
  hlist : ∃ v, Boxed W b2 22 v ∧ W.ownsRow (bs + 1) 9 1 v x.1.length (strs x.1)
  hgood : ∃ y, Boxed W b3 3 y ∧ (x.2.2 = true → y = .int .i64 x.2.1)
  herr : Boxed W b4 26 (.int .i64 (toldOf x (fget s x.2.1).2.2))
  hstr : Boxed W bs 9 (.string s)
  hbelow : Below w.heap.size w W
  hrow : ∃ fuel : Nat, (s.size : Int) < x.2.1 + fuel ∧ fallFrom s fuel x.1 x.2.1 = fall s
  hbad : x.2.2 = true → (fget s x.2.1).2.2 ≠ 0
  hroom : (x.1.length : Int) ≤ x.2.1 ∧ x.2.1 ≤ s.size

theorem AllI.turned {s : ByteArray} {w : World} {b2 b3 b4 bs : Nat} {x : PSt} {W W' : World} {row : Option Nat} (h : AllI s w b2 b3 b4 bs x W) (hg : W.grownBy W' row)
    (h3 : OffT W row 3) (h9 : OffT W row 9) (h22 : OffT W row 22) (h26 : OffT W row 26) (hB : ∀ r, row = some r → w.heap.size ≤ r) : AllI s w b2 b3 b4 bs x W' := by
  obtain ⟨v, hv, hr⟩ := h.hlist
  obtain ⟨y, hy, hyx⟩ := h.hgood
  exact ⟨⟨v, boxed_off hv hg h22, owns_off hr hg h9⟩, ⟨y, boxed_off hy hg h3, hyx⟩, boxed_off h.herr hg h26, boxed_off h.hstr hg h9, h.hbelow.grown hg h.hbelow.size (fun k e => hB k e), h.hrow, h.hbad, h.hroom⟩

/-- Block b holds a piece. -/
def BoxedP (W : World) (b : Nat) (r : ByteArray × Int × Nat) : Prop := W.heap[b]? = some (.cells #[.string r.1, .int .i64 r.2.1] 57 (0, 0))

theorem boxedP_off {W W' : World} {row : Option Nat} {b : Nat} {r : ByteArray × Int × Nat} (h : BoxedP W b r) (hg : W.grownBy W' row) (ho : OffT W row 57) : BoxedP W' b r :=
  (hg.block b (Array.getElem?_eq_some_iff.1 h).1 (fun e => ho b _ _ e.symm h)).trans h

theorem all_start (s : ByteArray) (w : World) : AllI s w w.heap.size (w.heap.size + 1) (w.heap.size + 1 + 1) (w.heap.size + 1 + 1 + 1) ([], 0, false)
    ((((w.alloc (.cells #[.slice none 0 0] 22)).alloc (.cells #[.int .i64 0] 3)).alloc (.cells #[.int .i64 0] 26)).alloc (.cells #[.string s] 9)) := by
  have x0 : Boxed ((((w.alloc (.cells #[.slice none 0 0] 22)).alloc (.cells #[.int .i64 0] 3)).alloc (.cells #[.int .i64 0] 26)).alloc (.cells #[.string s] 9)) w.heap.size 22 (.slice none 0 0) := (((Boxed.new w 22 _).alloc _).alloc _).alloc _
  have x1 : Boxed ((((w.alloc (.cells #[.slice none 0 0] 22)).alloc (.cells #[.int .i64 0] 3)).alloc (.cells #[.int .i64 0] 26)).alloc (.cells #[.string s] 9)) (w.heap.size + 1) 3 (.int .i64 0) := by
    have := ((Boxed.new (w.alloc (.cells #[.slice none 0 0] 22)) 3 (.int .i64 0)).alloc (.cells #[.int .i64 0] 26)).alloc (.cells #[.string s] 9)
    simpa only [World.size_alloc] using this
  have x2 : Boxed ((((w.alloc (.cells #[.slice none 0 0] 22)).alloc (.cells #[.int .i64 0] 3)).alloc (.cells #[.int .i64 0] 26)).alloc (.cells #[.string s] 9)) (w.heap.size + 1 + 1) 26 (.int .i64 0) := by
    have := (Boxed.new ((w.alloc (.cells #[.slice none 0 0] 22)).alloc (.cells #[.int .i64 0] 3)) 26 (.int .i64 0)).alloc (.cells #[.string s] 9)
    simpa only [World.size_alloc] using this
  have x3 : Boxed ((((w.alloc (.cells #[.slice none 0 0] 22)).alloc (.cells #[.int .i64 0] 3)).alloc (.cells #[.int .i64 0] 26)).alloc (.cells #[.string s] 9)) (w.heap.size + 1 + 1 + 1) 9 (.string s) := by
    have := Boxed.new (((w.alloc (.cells #[.slice none 0 0] 22)).alloc (.cells #[.int .i64 0] 3)).alloc (.cells #[.int .i64 0] 26)) 9 (.string s)
    simpa only [World.size_alloc] using this
  refine ⟨⟨_, x0, by simpa [strs] using World.ownsRow_nil _ (w.heap.size + 1 + 1 + 1 + 1) 9 1⟩, ⟨_, x1, (fun h => by cases h)⟩, x2, x3, ?_, ⟨s.size + 1, by simp; omega, rfl⟩, (fun h => by cases h), by simp⟩
  exact ((((Below.refl _ w).alloc (Nat.le_refl _) _).alloc (by simp) _).alloc (by simp; omega) _).alloc (by simp; omega) _

set_option maxRecDepth 100000 in
set_option maxHeartbeats 2000000 in
theorem all_in (n : Nat) (hn : 6 ≤ n) (s : ByteArray) (w : World) (hF : Fours w) (hs : s.size ≤ 1000000) :
    CallsIn Fence.wide n Tryd.prog 14 #[.string s] w fun e w' =>
      ∃ v, e = .returned (.tuple #[v, .int .i64 (fall s).2.1, .int .i64 ((fall s).2.2 : Nat)]) ∧ Strs w' v (fall s).1 ∧ Below w.heap.size w w' := by
  have h1 : 1 ≤ n := by omega
  refine callsIn_of_wp_marks Tryd.func14 rfl trivial ?_ rfl
  simp only [Tryd.ntmps14, List.size_toArray, List.length_cons, List.length_nil, Nat.reduceAdd, Nat.reduceSub, Array.replicate_succ, Array.replicate_zero, List.push_toArray, List.append_toArray, List.nil_append, List.cons_append]
  gi_wp2_with (refine ⟨trivial, ?_⟩; gi_at_call 27; refine (callsIn_wide.2 (pieces_any s _)).mono ?_; rintro e w' ⟨rfl, rfl⟩)
  have h0 := all_start s w
  obtain ⟨W0, hW0⟩ : ∃ W0, W0 = ((((w.alloc (.cells #[.slice none 0 0] 22)).alloc (.cells #[.int .i64 0] 3)).alloc (.cells #[.int .i64 0] 26)).alloc (.cells #[.string s] 9)) := ⟨_, rfl⟩
  rw [← hW0] at h0 ⊢
  clear hW0
  have n0 : w.heap.size < w.heap.size + 1 := by omega
  generalize w.heap.size + 1 = b3 at h0 n0 ⊢
  have n1 : b3 < b3 + 1 := by omega
  generalize b3 + 1 = b4 at h0 n1 ⊢
  have n2 : b4 < b4 + 1 := by omega
  generalize b4 + 1 = b5 at h0 n2 ⊢
  have hsz0 := h0.hbelow.size
  refine wpIn_range_cells h1 (gf := 54) (lb := #[.pointer (some ⟨b5, 0, none⟩)]) rfl (enters_of Tryd.func54 (by kernel_rfl) rfl)
    (pieces_iter (n - 1) (by omega) 80 s b5 hs W0) (fun _ => rfl) (AllI s w w.heap.size b3 b4 b5) (fun _ _ => False)
    (fun x a' W => ∃ b9, BoxedP W b9 (fget s x.2.1) ∧ a' = { tmps := #[.string s, undef, .pointer (some ⟨w.heap.size, 0, none⟩), .pointer (some ⟨b3, 0, none⟩), .pointer (some ⟨b4, 0, none⟩), .pointer (some ⟨b9, 0, none⟩), .int .i64 ((fget s x.2.1).2.2 : Nat), .string s, .func (.func 54) #[] #[.pointer (some ⟨b5, 0, none⟩)], .agg #[.string (fget s x.2.1).1, .int .i64 (fget s x.2.1).2.1], .int .i64 ((fget s x.2.1).2.2 : Nat), undef, undef, undef, undef, undef, undef, undef, undef, undef, undef, undef, undef, undef, undef, undef, undef], defers := [] })
    ?bi ?bc ?bx ?ba ?bm ?start ?assign ?body ?done ?stop
  case bi => exact fun x W W' row h hg hr => h.turned hg (off_own hr) (off_own hr) (off_own hr) (off_own hr) (fun r e => by have := (hr r e).1; omega)
  case bc => exact fun x W W' row h hg hr => h.turned hg (off_cells hr (by decide)) (off_cells hr (by decide)) (off_cells hr (by decide)) (off_cells hr (by decide)) (fun r e => by have := (hr r e).1; omega)
  case bx => exact fun c W W' row h hg hr => h
  case ba =>
    rintro x a' W W' row ⟨b9, h9, rfl⟩ hg hr
    exact ⟨b9, boxedP_off h9 hg (off_own hr), rfl⟩
  case bm => exact fun R x W h => ⟨h.1.hstr, hF.below h.1.hbelow⟩
  case start => exact h0
  case assign =>
    intro l x W hI
    dsimp only [pieceArgs]
    gi_wp2
    refine ⟨(KeepsOthers.alloc _ _).from _, fun r cs fz hr => (Below.heap_alloc W _ r (Array.getElem?_eq_some_iff.1 hr).1).trans hr, hI.turned (World.grownBy_alloc W _ none) (fun r cs fz e => by cases e) (fun r cs fz e => by cases e) (fun r cs fz e => by cases e) (fun r cs fz e => by cases e) (fun r e => by cases e), W.heap.size, World.alloc_heap_new W _, ?_⟩
    rfl
  case body =>
    rintro l ⟨acc, p, fl⟩ a' W hI ⟨b9, h9, rfl⟩
    obtain ⟨v, hv, hown⟩ := hI.hlist
    obtain ⟨y3, hy3, hyx⟩ := hI.hgood
    have h4 := hI.herr
    obtain ⟨fuel, hfuel, hrow⟩ := hI.hrow
    have hbad := hI.hbad
    have hroom := hI.hroom
    have hst := fget_stands (s := s) (a := p)
    have hbd := fget_bad (s := s) (a := p)
    have hok := fun k => fallFrom_ok (s := s) (k := k) (acc := acc) (a := p)
    obtain ⟨r0, hr0⟩ : ∃ r0, fget s p = r0 := ⟨_, rfl⟩
    dsimp only at h9 hown hyx hfuel hrow hbad hroom h4 ⊢
    rw [hr0] at h9 hst hbd h4 hok hbad ⊢
    obtain ⟨P0, p0, e0⟩ := r0
    dsimp only at hst hbd hok h4 hbad ⊢
    have c0 : W.cell? ⟨b9, 0, none⟩ = some (.string P0) := by rw [Lib.cell_of_heap h9]; rfl
    have c1 : W.cell? ⟨b9, 1, none⟩ = some (.int .i64 p0) := by rw [Lib.cell_of_heap h9]; rfl
    have k3 := hy3.cell
    have f3 := hy3.frozen
    obtain ⟨Wa, hWa⟩ : ∃ Wa, Wa = W.setCell ⟨b3, 0, none⟩ (.int .i64 p0) := ⟨_, rfl⟩
    have ga : W.grownBy Wa (some b3) := hWa ▸ grownBy_setCell' W b3 _
    have a2 : Boxed Wa w.heap.size 22 v := boxed_off hv ga (off_box hy3 (by decide))
    have a3 : Boxed Wa b3 3 (.int .i64 p0) := hWa ▸ hy3.set _
    have a4 : Boxed Wa b4 26 (.int .i64 (toldOf (acc, p, fl) e0)) := boxed_off h4 ga (off_box hy3 (by decide))
    have a5 : Boxed Wa b5 9 (.string s) := boxed_off hI.hstr ga (off_box hy3 (by decide))
    have ao := owns_off hown ga (off_box hy3 (by decide))
    have a9 : BoxedP Wa b9 (P0, p0, e0) := boxedP_off h9 ga (off_box hy3 (by decide))
    have ab : Below w.heap.size w Wa := hI.hbelow.grown ga hI.hbelow.size (fun k e => by cases e; omega)
    have ak : KeepsOthers W Wa := hWa ▸ KeepsOthers.setCell W _ _
    have ac : KeepsCells 80 W Wa := keepsCells_grown ga (off_box hy3 (by decide))
    have d0 : Wa.cell? ⟨b9, 0, none⟩ = some (.string P0) := by rw [Lib.cell_of_heap a9]; rfl
    have d2 := a2.cell
    have d4 := a4.cell
    have g2 := a2.frozen
    have g4 := a4.frozen
    subst hWa
    by_cases he : e0 = 0
    · subst he
      obtain rfl : fl = false := by
        cases fl
        · rfl
        · exact absurd rfl (hbad rfl)
      obtain ⟨i0, hi, hz0, hz1, hz2⟩ := info_parts i9
      have hoff : ∀ t, 9 ≠ t → OffT ((W.setCell ⟨b3, 0, none⟩ (.int .i64 p0)).alloc (.cells #[.string P0] 9)) v.ownBlock t := fun t ht => off_cells (owns_cells (ao.alloc _)) ht
      have hrowc := owns_cells (ao.alloc (.cells #[.string P0] 9))
      have hsa := ga.size
      have hbs := hI.hbelow.size
      obtain ⟨j1, j2, j3, _⟩ := stands_next (hst rfl)
      have hnew : ((W.setCell ⟨b3, 0, none⟩ (.int .i64 p0)).alloc (.cells #[.string P0] 9)).cell? ⟨W.heap.size, 0, none⟩ = some (.string P0) := by
        have := (Boxed.new (W.setCell ⟨b3, 0, none⟩ (.int .i64 p0)) 9 (.string P0)).cell
        simpa using this
      gi_wp2_with (gi_at_builtin; refine wpListIn_append_own _ rfl _ _ 22 rfl (b5 + 1) 9 i0 (.string ⟨#[]⟩) 1 16 Tryd.underlying22 hi hz0 hz1 hz2 rfl (by decide) _ _ _ rfl (ao.alloc _) ⟨W.heap.size, 0, none⟩ 1 1 [.string P0] rfl rfl ?c1 ?c2 ?c3 ?c4 ?c5 ?_)
      case c2 => rfl
      case c3 => unfold maxLen; omega
      case c4 => omega
      case c5 => have := a5.lt; simp at this ⊢; omega
      intro v' w1 hown1 hgrow _
      obtain ⟨g, cap, rfl⟩ := ownsRow_succ hown1
      have u2 : Boxed w1 w.heap.size 22 v := boxed_off (a2.alloc _) hgrow (hoff 22 (by decide))
      have u3 : Boxed w1 b3 3 (.int .i64 p0) := boxed_off (a3.alloc _) hgrow (hoff 3 (by decide))
      have u4 := boxed_off (a4.alloc (.cells #[.string P0] 9)) hgrow (hoff 26 (by decide))
      have u5 : Boxed w1 b5 9 (.string s) := (a5.alloc _).kept hgrow (fun e => by
        have := (hrowc b5 e.symm).1
        omega)
      have t2 := u2.cell
      have tf2 := u2.frozen
      gi_wp2
      have gf : w1.grownBy (w1.setCell ⟨w.heap.size, 0, none⟩ (.slice (some ⟨g, 0, none⟩) (acc.length + 1) cap)) (some w.heap.size) := grownBy_setCell' w1 w.heap.size _
      have zo := owns_off hown1 gf (off_box u2 (by decide))
      have hu : strs acc ++ [.string P0] = strs (acc ++ [P0]) := by simp [strs]
      rw [hu] at zo
      obtain ⟨f', rfl⟩ : ∃ f', fuel = f' + 1 := ⟨fuel - 1, by omega⟩
      rw [hok f' trivial] at hrow
      have hga : Below w.heap.size w ((W.setCell ⟨b3, 0, none⟩ (.int .i64 p0)).alloc (.cells #[.string P0] 9)) := ab.alloc (by omega) _
      refine ⟨?_, ?_, (acc ++ [P0], p0, false), .inl (by rw [hr0]; exact ⟨rfl, rfl⟩), ⟨⟨_, u2.set _, by simpa using zo⟩, ⟨_, boxed_off u3 gf (off_box u2 (by decide)), (fun h => by cases h)⟩, boxed_off u4 gf (off_box u2 (by decide)), boxed_off u5 gf (off_box u2 (by decide)), ?_, ⟨f', by simp at hfuel ⊢; omega, hrow⟩, (fun h => by cases h), ?_⟩⟩
      · exact ((((ak.trans (KeepsOthers.alloc _ _)).trans (KeepsOthers.of_grownBy hgrow (fun j o e hj => by
          obtain ⟨_, cs, fz, hc⟩ := hrowc j e
          rw [hj] at hc; cases hc; rfl))).trans (KeepsOthers.setCell w1 _ _))).from _
      · exact ((ac.trans (fun r cs fz hr => (Below.heap_alloc _ _ r (Array.getElem?_eq_some_iff.1 hr).1).trans hr)).trans (keepsCells_grown hgrow (hoff 80 (by decide)))).trans (keepsCells_grown gf (off_box u2 (by decide)))
      · exact (hga.grown hgrow hga.size (fun k e => Nat.le_trans (by have := a5.lt; omega) (hrowc k e).1)).grown gf (by have := hgrow.size; have := hga.size; omega) (fun k e => by cases e; omega)
      · simp; omega
    · obtain ⟨rfl, rfl⟩ := hbd he
      have he0 : ((e0 : Int) == 0) = false := by simp; omega
      by_cases h9e : e0 = 9
      · subst h9e
        have e1 : toldOf (acc, p0, fl) 9 = toldOf (acc, p0, true) (fget s p0).2.2 := by rw [hr0]; unfold toldOf; cases fl <;> simp
        rw [e1] at a4
        clear e1
        gi_wp2
        exact ⟨ak.from _, ac, (acc, p0, true), .inr ⟨by rw [hr0]; simp, rfl⟩, ⟨⟨v, a2, ao⟩, ⟨_, a3, fun _ => rfl⟩, a4, a5, ab, ⟨fuel, hfuel, hrow⟩, (fun _ => by rw [hr0]; simp), hroom⟩⟩
      · have he9 : ((e0 : Int) == 9) = false := by simp; omega
        have gh : (W.setCell ⟨b3, 0, none⟩ (.int .i64 p0)).grownBy ((W.setCell ⟨b3, 0, none⟩ (.int .i64 p0)).setCell ⟨b4, 0, none⟩ (.int .i64 (e0 : Int))) (some b4) := grownBy_setCell' _ b4 _
        have z4 : Boxed ((W.setCell ⟨b3, 0, none⟩ (.int .i64 p0)).setCell ⟨b4, 0, none⟩ (.int .i64 (e0 : Int))) b4 26 (.int .i64 (toldOf (acc, p0, true) (fget s p0).2.2)) := by
          rw [show toldOf (acc, p0, true) (fget s p0).2.2 = (e0 : Int) by rw [hr0]; unfold toldOf; simp [h9e]]
          exact a4.set _
        have hbf : Below w.heap.size w ((W.setCell ⟨b3, 0, none⟩ (.int .i64 p0)).setCell ⟨b4, 0, none⟩ (.int .i64 (e0 : Int))) := ab.grown gh ab.size (fun k e => by cases e; omega)
        gi_wp2
        exact ⟨(ak.trans (KeepsOthers.setCell _ _ _)).from _, ac.trans (keepsCells_grown gh (off_box a4 (by decide))), (acc, p0, true), .inr ⟨by rw [hr0]; exact he, rfl⟩,
          ⟨⟨v, boxed_off a2 gh (off_box a4 (by decide)), owns_off ao gh (off_box a4 (by decide))⟩, ⟨_, boxed_off a3 gh (off_box a4 (by decide)), fun _ => rfl⟩, z4, boxed_off a5 gh (off_box a4 (by decide)), hbf, ⟨fuel, hfuel, hrow⟩, (fun _ => by rw [hr0]; exact he), hroom⟩⟩
  case done =>
    rintro D ⟨acc, p, fl⟩ W hD hfin hI hK
    dsimp only at hfin
    subst hfin
    obtain ⟨v, hv, hown⟩ := hI.hlist
    obtain ⟨y3, hy3, hyx⟩ := hI.hgood
    obtain rfl := hyx rfl
    have h4 := hI.herr
    have hbW := hI.hbelow
    obtain ⟨fuel, hfuel, hrow⟩ := hI.hrow
    have hbad := hI.hbad rfl
    have hroom := hI.hroom
    dsimp only at hfuel hrow hbad hroom h4 hown hy3
    obtain ⟨E, hE⟩ : ∃ E : Nat, (if (fget s p).2.2 = 9 then 0 else (fget s p).2.2) = E := ⟨_, rfl⟩
    have hEt : toldOf (acc, p, true) (fget s p).2.2 = (E : Int) := by
      rw [← hE]; unfold toldOf
      simp only [if_true]
      split <;> simp
    rw [hEt] at h4
    have hfall : fall s = (acc, p, E) := by
      obtain ⟨f', rfl⟩ : ∃ f', fuel = f' + 1 := ⟨fuel - 1, by omega⟩
      rw [← hrow, fallFrom_bad hbad, hE]
    have HR := Lib.hid hfall
    clear hE hEt hfall hrow hfuel hbad
    have k1 := hv.cell
    have k2 := hy3.cell
    have k3 := h4.cell
    have f1 := hv.frozen
    have f2 := hy3.frozen
    have f3 := h4.frozen
    obtain ⟨ao, n', cap, rfl⟩ : ∃ ao n' cap, v = .slice ao n' cap := by
      rcases hown.2 with ⟨hv, _⟩ | ⟨g, cap, cur, hv, _⟩
      · exact ⟨_, _, _, hv⟩
      · exact ⟨_, _, _, hv⟩
    have hI5 := hI.hstr
    clear hI hyx h0
    gi_wp2
    gi_region
    gi_wp2
    have d12 : some w.heap.size ≠ some b3 := fun e => by injection e with e; omega
    have d13 : some w.heap.size ≠ some b4 := fun e => by injection e with e; omega
    have d23 : some b3 ≠ some b4 := fun e => by injection e with e; omega
    obtain ⟨Wa, hWa⟩ : ∃ Wa, Wa = W.setCell ⟨w.heap.size, 0, none⟩ (.slice ao n' cap) := ⟨_, rfl⟩
    obtain ⟨Wb, hWb⟩ : ∃ Wb, Wb = Wa.setCell ⟨b3, 0, none⟩ (.int .i64 p) := ⟨_, rfl⟩
    obtain ⟨Wc, hWc⟩ : ∃ Wc, Wc = (Wb.setCell ⟨b4, 0, none⟩ (.int .i64 (E : Int))).drew := ⟨_, rfl⟩
    have ga : W.grownBy Wa (some w.heap.size) := hWa ▸ grownBy_setCell' W w.heap.size _
    have gb : Wa.grownBy Wb (some b3) := hWb ▸ grownBy_setCell' Wa b3 _
    have gc : Wb.grownBy (Wb.setCell ⟨b4, 0, none⟩ (.int .i64 (E : Int))) (some b4) := grownBy_setCell' Wb b4 _
    have a1 : Boxed Wa w.heap.size 22 (.slice ao n' cap) := hWa ▸ hv.set _
    have a2 : Boxed Wa b3 3 (.int .i64 p) := hy3.kept ga d12.symm
    have a3 : Boxed Wa b4 26 (.int .i64 (E : Int)) := h4.kept ga d13.symm
    have c1 : Boxed Wb w.heap.size 22 (.slice ao n' cap) := a1.kept gb d12
    have c2 : Boxed Wb b3 3 (.int .i64 p) := hWb ▸ a2.set _
    have c3 : Boxed Wb b4 26 (.int .i64 (E : Int)) := a3.kept gb d23.symm
    have e1 : Boxed Wc w.heap.size 22 (.slice ao n' cap) := hWc ▸ boxed_drew (c1.kept gc d13)
    have e2 : Boxed Wc b3 3 (.int .i64 p) := hWc ▸ boxed_drew (c2.kept gc d23)
    have e3 : Boxed Wc b4 26 (.int .i64 (E : Int)) := hWc ▸ boxed_drew (c3.set _)
    have eo : Wc.ownsRow (b5 + 1) 9 1 (.slice ao n' cap) acc.length (strs acc) := by
      have := owns_off (owns_off (owns_off hown ga (off_box hv (by decide))) gb (off_box a2 (by decide))) gc (off_box c3 (by decide))
      rw [hWc]
      exact this
    have ek : KeepsOthers W Wc := by
      rw [hWc, hWb, hWa]
      exact (((KeepsOthers.setCell W _ _).trans (KeepsOthers.setCell _ _ _)).trans (KeepsOthers.setCell _ _ _)).trans (KeepsOthers.drew _)
    have eb : Below w.heap.size w Wc := by
      rw [hWc]
      have := hbW.size
      exact Below.drew (((hbW.grown ga this (fun k e => by cases e; omega)).grown gb (Nat.le_trans this ga.size) (fun k e => by cases e; omega)).grown gc (Nat.le_trans (Nat.le_trans this ga.size) gb.size) (fun k e => by cases e; omega))
    have hK' := ek.same D _ hK rfl
    have hr : ∀ r, some D = some r → D ≤ r ∧ ∃ o : Obj, Wc.heap[r]? = some o ∧ o.isCells = false := fun r e => by cases e; exact ⟨Nat.le_refl _, _, hK', rfl⟩
    have hg := grownBy_putObj' Wc D (.deferred none)
    have q1 := boxed_off e1 hg (off_own hr)
    have q2 := boxed_off e2 hg (off_own hr)
    have q3 := boxed_off e3 hg (off_own hr)
    have qb : Below w.heap.size w (Wc.putObj D (.deferred none)) := eb.grown hg eb.size (fun k e => by cases e; omega)
    have qn : Strs (Wc.putObj D (.deferred none)) (.slice ao n' cap) acc := strs_of_owns (owns_off eo hg (off_own hr))
    rw [← hWa, ← hWb, ← hWc]
    refine ⟨by simp, .inl ⟨_, _, rfl, run_takeDeferred hK', ?_⟩⟩
    have z1 := q1.cell
    have z2 := q2.cell
    have z3 := q3.cell
    refine ⟨.tuple #[.slice ao n' cap, .int .i64 p, .int .i64 (E : Int)], by simp [results, Tryd.results14, go_sem, z1, z2, z3], .slice ao n' cap, ?_, ?_, qb⟩
    · rw [HR.out]
    · rw [HR.out]; exact qn
  case stop => exact fun D c W hD hX hK => hX.elim

/-- What All answers. -/
def AllAns (w : World) (r : List ByteArray × Int × Nat) (e : Ending) (w' : World) : Prop :=
  ∃ v, e = .returned (.tuple #[v, .int .i64 r.2.1, .int .i64 (r.2.2 : Nat)]) ∧ Strs w' v r.1 ∧ Below w.heap.size w w'

theorem fall_any (s : ByteArray) (w : World) (hF : Fours w) (hs : s.size ≤ 1000000) : Calls Tryd.prog 14 #[.string s] w (AllAns w (fall s)) :=
  callsIn_wide.1 (all_in 6 (Nat.le_refl _) s w hF hs)
end Go.Proofs.YtnndabjhdhnleaaDoor

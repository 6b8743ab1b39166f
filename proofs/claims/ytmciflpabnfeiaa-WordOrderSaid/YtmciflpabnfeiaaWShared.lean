/-
  The walk of word.Shared: a range over neighbours.
-/
import Derived.Test.YtmciflpabnfeiaaWRising
namespace Go.Proofs.Ytmciflpabnfeiaa
open Go.RowKit Go.Shelf

attribute [local go_sem] Oper.semAt_some

/-- What holds between two pairs. -/
structure ShareI (l : List ByteArray) (v : Value) (w : World) (b3 bs : Nat) (k : Nat) (W : World) : Prop where
  hn : Boxed W b3 3 (.int .i64 (allSharedT (l.take k) : Nat))
  hbox : Boxed W bs 22 v
  hbelow : Below w.heap.size w W
  hk : 1 ≤ k ∧ k ≤ l.length

theorem ShareI.turned {l : List ByteArray} {v : Value} {w : World} {b3 bs k : Nat} {W W' : World} {row : Option Nat} (h : ShareI l v w b3 bs k W) (hg : W.grownBy W' row)
    (h3 : OffT W row 3) (h22 : OffT W row 22) (hB : ∀ r, row = some r → w.heap.size ≤ r) : ShareI l v w b3 bs k W' :=
  ⟨boxed_off h.hn hg h3, boxed_off h.hbox hg h22, h.hbelow.grown hg h.hbelow.size (fun k e => hB k e), h.hk⟩

theorem keepsCells_below {T : TypeId} {W W' : World} (hb : Below W.heap.size W W') : KeepsCells T W W' := fun r _ _ hr => (hb.block r (Array.getElem?_eq_some_iff.1 hr).1).trans hr

theorem grownBy_of_below {W W' : World} (hb : Below W.heap.size W W') : W.grownBy W' none := ⟨hb.os, hb.tape, hb.output, hb.size, fun k hk _ => hb.block k hk⟩

theorem ShareI.next {l : List ByteArray} {v : Value} {w : World} {b3 bs B k R : Nat} {W w3 : World} (h : ShareI l v w b3 bs k W) (hb3 : w.heap.size ≤ b3) (hlt : k < l.length) (hR : allSharedT (l.take (k + 1)) = R) (hb : Below W.heap.size W w3) :
    KeepsFrom B W (w3.setCell ⟨b3, 0, none⟩ (.int .i64 (R : Int))) ∧ KeepsCells 0 W (w3.setCell ⟨b3, 0, none⟩ (.int .i64 (R : Int))) ∧ ∃ k', k' = k + 1 ∧ ShareI l v w b3 bs k' (w3.setCell ⟨b3, 0, none⟩ (.int .i64 (R : Int))) := by
  have hx := boxed_below h.hn hb
  have hg := grownBy_setCell' w3 b3 (.int .i64 (R : Int))
  refine ⟨((KeepsOthers.of_grownBy (grownBy_of_below hb) (fun j o e _ => by cases e)).trans (KeepsOthers.setCell w3 _ _)).from _, (keepsCells_below hb).trans (keepsCells_grown hg (off_box hx (by decide))), k + 1, rfl, ?_⟩
  exact ⟨by rw [hR]; exact hx.set _, boxed_off (boxed_below h.hbox hb) hg (off_box hx (by decide)), (Below.next h.hbelow hb).setCell (p := ⟨b3, 0, none⟩) hb3 _, by omega, hlt⟩

set_option maxRecDepth 100000 in
set_option maxHeartbeats 4000000 in
theorem shared_in (n : Nat) (hn : 6 ≤ n) (l : List ByteArray) (v : Value) (w : World) (hv : Strs w v l) (hl : Short l) (hlen : l.length ≤ 9223372036854775806) :
    CallsIn Fence.wide n Try.prog 14 #[v] w fun e w' => e = .returned (.int .i64 (allSharedT l : Nat)) ∧ Below w.heap.size w w' := by
  have h1 : 1 ≤ n := by omega
  obtain ⟨ad, c, rfl, hc⟩ := strs_cell hv
  by_cases h0 : l.length = 0
  · have hl0 : l = [] := List.eq_nil_of_length_eq_zero h0
    have e0 : ((l.length : Int) == 0) = true := by rw [beq_iff_eq]; omega
    have HA : Hid (allSharedT l = 0) := Lib.hid (by rw [hl0]; rfl)
    clear h0 hl0 hc
    refine callsIn_wide.2 ?_
    go_enter Try.func14, Try.ntmps14
    go_wp2
    go_ret
    exact ⟨ret_nat HA.out.symm, Below.refl _ _⟩
  have hpos : 0 < l.length := by omega
  have e0 : ((l.length : Int) == 0) = false := by rw [beq_eq_false_iff_ne]; omega
  obtain ⟨b, o, rfl, hcell0⟩ := hc 0 hpos
  obtain ⟨x, hx⟩ : ∃ x, x = at' l 0 := ⟨_, rfl⟩
  rw [← hx, Nat.add_zero] at hcell0
  have hxz : x.size ≤ 9223372036854775807 := by rw [hx]; exact short_at hl _
  have HF := Lib.hid (allShared_first l hpos)
  rw [← hx] at HF
  clear hx h0 hc
  refine callsIn_of_wp_marks Try.func14 rfl trivial ?_ rfl
  simp only [Try.ntmps14, List.size_toArray, List.length_cons, List.length_nil, Nat.reduceAdd, Nat.reduceSub, Array.replicate_succ, Array.replicate_zero, List.push_toArray, List.append_toArray, List.nil_append, List.cons_append]
  gi_wp2_with (refine ⟨trivial, ?_⟩; gi_at_call 28; refine (callsIn_wide.2 (neighbours_any _ ⟨_, _, _, rfl⟩ _)).mono ?_; rintro e w' ⟨rfl, rfl⟩)
  obtain ⟨x0, x1, xb⟩ := two_boxes w (.int .i64 (x.size : Int)) (.slice (some ⟨b, o, none⟩) l.length c) 3
  obtain ⟨W0, hW0⟩ : ∃ W0, W0 = (w.alloc (.cells #[.int .i64 (x.size : Int)] 3)).alloc (.cells #[.slice (some ⟨b, o, none⟩) l.length c] 22) := ⟨_, rfl⟩
  rw [← hW0] at x0 x1 xb ⊢
  clear hW0
  have n0 : w.heap.size < w.heap.size + 1 := by omega
  generalize w.heap.size + 1 = bs at x1 n0 ⊢
  have hsz0 := xb.size
  refine wpIn_range_to h1 (gf := 37) (lb := #[.pointer (some ⟨bs, 0, none⟩)]) rfl (enters_of Try.func37 (by kernel_rfl) rfl)
    (pairs_iter (n - 1) (by omega) 0 l (some ⟨b, o, none⟩) c bs hlen W0) (fun _ => rfl) (ShareI l (.slice (some ⟨b, o, none⟩) l.length c) w w.heap.size bs) (fun _ _ => False)
    (fun k a' W => a' = { tmps := #[.slice (some ⟨b, o, none⟩) l.length c, undef, .int .i64 0, .pointer (some ⟨w.heap.size, 0, none⟩), .string (at' l (k - 1)), .string (at' l k), .slice (some ⟨b, o, none⟩) l.length c, .int .i64 (l.length : Int), .bool false, .slice (some ⟨b, o, none⟩) l.length c, .pointer (some ⟨b, o, none⟩), .string x, .int .i64 (x.size : Int), .slice (some ⟨b, o, none⟩) l.length c, .func (.func 37) #[] #[.pointer (some ⟨bs, 0, none⟩)], .string (at' l (k - 1)), .string (at' l k), undef, undef, undef, undef, undef, undef], defers := [] })
    ?bi ?bc ?bx ?ba ?bm ?start ?assign ?body ?done ?stop
  case bi => exact fun x W W' row h hg hr => h.turned hg (off_own hr) (off_own hr) (fun r e => by have := (hr r e).1; omega)
  case bc => exact fun x W W' row h hg hr => h.turned hg (off_cells hr (by decide)) (off_cells hr (by decide)) (fun r e => by have := (hr r e).1; omega)
  case bx => exact fun c W W' row h hg hr => h
  case ba => exact fun x a' W W' row h hg hr => h
  case bm => exact fun R x W h => ⟨h.1.hbox, hv.below h.1.hbelow⟩
  case start => exact ⟨by rw [HF.out]; exact x0, x1, xb, Nat.le_refl _, hpos⟩
  case assign =>
    intro y k W hI
    dsimp only [pairArgs]
    gi_wp2
    exact ⟨(KeepsOthers.refl _).from _, fun r cs fz hr => hr, hI, trivial⟩
  case body =>
    rintro y k a' W hnf hI rfl
    obtain ⟨hk1, hk2⟩ := hI.hk
    have hlt : k < l.length := by omega
    obtain ⟨N, hN⟩ : ∃ N : Nat, allSharedT (l.take k) = N := ⟨_, rfl⟩
    obtain ⟨M, hM⟩ : ∃ M : Nat, sharedT (at' l (k - 1)) (at' l k) = M := ⟨_, rfl⟩
    have hnext := allShared_next (l := l) (k := k) (by omega) hlt
    rw [hN, hM] at hnext
    have hx := hI.hn
    rw [hN] at hx
    have q29 : ∀ w0, Calls Try.prog 29 #[.string (at' l (k - 1)), .string (at' l k)] w0 fun e w' => e = .returned (.int .i64 (M : Int)) ∧ Below w0.heap.size w0 w' := fun w0 => by
      rw [← hM]; exact alike_any (at' l (k - 1)) (at' l k) w0 (short_at hl _) (short_at hl _)
    have hc4 := (boxed_drew hx).cell
    have hf4 := (boxed_drew hx).frozen
    have hxd := boxed_drew hx
    have hn2 : 1 ≤ n - 1 - 1 := by omega
    have HNX := Lib.hid hnext
    have hmo : Try.prog.follows .mixedOrders = true := by kernel_rfl
    have hbd : Below W.heap.size W W.drew := (Below.refl _ W).drew
    have HB := Lib.hid hI.hbelow
    have HX := Lib.hid hI.hbox
    clear hN hM hnext hx
    generalize at' l (k - 1) = X at q29 ⊢
    generalize at' l k = Y at q29 ⊢
    rcases Nat.lt_or_ge M N with hmn | hmn
    · have dm : (M : Int) < (N : Int) := by omega
      gi_wp2
      gi_region_with_o (refine ⟨trivial, ?_⟩; gi_at_call 29; refine (CallsIn.inRound y (callsIn_wide.2 (q29 _))).mono ?_; rintro e w3 ⟨rfl, hb3⟩; have hx3 := boxed_below hxd hb3; have hc5 := hx3.cell; have hf5 := hx3.frozen)
      all_goals gi_wp2
      all_goals exact hI.next (Nat.le_refl _) hlt (HNX.out.trans (Nat.min_eq_right (Nat.le_of_lt hmn))) (hbd.trans (hb3.mono hbd.size))
    · have dm : ¬ (M : Int) < (N : Int) := by omega
      gi_wp2
      gi_region_with_o (refine ⟨trivial, ?_⟩; gi_at_call 29; refine (CallsIn.inRound y (callsIn_wide.2 (q29 _))).mono ?_; rintro e w3 ⟨rfl, hb3⟩; have hx3 := boxed_below hxd hb3; have hc5 := hx3.cell; have hf5 := hx3.frozen)
      all_goals gi_wp2
      all_goals exact hI.next (Nat.le_refl _) hlt (HNX.out.trans (Nat.min_eq_left hmn)) (hbd.trans (hb3.mono hbd.size))
  case done =>
    rintro D k W hD hfin hI hK
    have hx := hI.hn
    have hk := hI.hk
    rw [show k = l.length by omega, List.take_length] at hx
    have hc4 := hx.cell
    have hbw := hI.hbelow
    clear hI
    gi_wp2
    have hg := grownBy_putObj' W D (.deferred none)
    refine ⟨by simp, .inl ⟨_, _, rfl, run_takeDeferred hK, ?_⟩⟩
    exact ⟨_, results_tmp rfl _ _ _, rfl, hbw.grown hg hbw.size (fun k e => by cases e; omega)⟩
  case stop => exact fun D c W hD hX hK => hX.elim

theorem shared_any (l : List ByteArray) (v : Value) (w : World) (hv : Strs w v l) (hl : Short l) (hlen : l.length ≤ 9223372036854775806) :
    Calls Try.prog 14 #[v] w fun e w' => e = .returned (.int .i64 (allSharedT l : Nat)) ∧ Below w.heap.size w w' :=
  callsIn_wide.1 (shared_in 6 (Nat.le_refl _) l v w hv hl hlen)
end Go.Proofs.Ytmciflpabnfeiaa

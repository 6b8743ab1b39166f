/-
  The walk of word.Rising: a range over neighbours.
-/
import Derived.Test.YtmciflpabnfeiaaWPairs
namespace Go.Proofs.Ytmciflpabnfeiaa
open Go.RowKit Go.Shelf

attribute [local go_sem] Oper.semAt_some

/-- What holds between two pairs. -/
structure RiseI (l : List ByteArray) (v : Value) (w : World) (b2 bs : Nat) (k : Nat) (W : World) : Prop where
  hok : ∃ x, Boxed W b2 4 x
  hbox : Boxed W bs 22 v
  hbelow : Below w.heap.size w W
  hup : ∀ i, i + 1 < k → i + 1 < l.length → lessT (at' l i) (at' l (i + 1)) = true
  hk : 1 ≤ k

theorem RiseI.turned {l : List ByteArray} {v : Value} {w : World} {b2 bs k : Nat} {W W' : World} {row : Option Nat} (h : RiseI l v w b2 bs k W) (hg : W.grownBy W' row)
    (h4 : OffT W row 4) (h22 : OffT W row 22) (hB : ∀ r, row = some r → w.heap.size ≤ r) : RiseI l v w b2 bs k W' := by
  obtain ⟨x, hx⟩ := h.hok
  exact ⟨⟨x, boxed_off hx hg h4⟩, boxed_off h.hbox hg h22, h.hbelow.grown hg h.hbelow.size (fun k e => hB k e), h.hup, h.hk⟩

/-- What holds when it has been left. -/
structure RiseX (l : List ByteArray) (w : World) (b2 : Nat) (c : Code) (W : World) : Prop where
  hc : c = .ret
  hok : Boxed W b2 4 (.bool false)
  hbelow : Below w.heap.size w W
  hnot : risingT l = false

theorem RiseX.turned {l : List ByteArray} {w : World} {b2 : Nat} {c : Code} {W W' : World} {row : Option Nat} (h : RiseX l w b2 c W) (hg : W.grownBy W' row)
    (h4 : OffT W row 4) (hB : ∀ r, row = some r → w.heap.size ≤ r) : RiseX l w b2 c W' :=
  ⟨h.hc, boxed_off h.hok hg h4, h.hbelow.grown hg h.hbelow.size (fun k e => hB k e), h.hnot⟩

theorem two_boxes (w : World) (x v : Value) (t : TypeId) : Boxed ((w.alloc (.cells #[x] t)).alloc (.cells #[v] 22)) w.heap.size t x ∧ Boxed ((w.alloc (.cells #[x] t)).alloc (.cells #[v] 22)) (w.heap.size + 1) 22 v ∧
    Below w.heap.size w ((w.alloc (.cells #[x] t)).alloc (.cells #[v] 22)) := by
  refine ⟨(Boxed.new w t x).alloc _, ?_, ((Below.refl _ w).alloc (Nat.le_refl _) _).alloc (by simp) _⟩
  have := Boxed.new (w.alloc (.cells #[x] t)) 22 v
  simpa only [World.size_alloc] using this

set_option maxRecDepth 100000 in
set_option maxHeartbeats 2000000 in
theorem rising_in (n : Nat) (hn : 6 ≤ n) (l : List ByteArray) (v : Value) (w : World) (hv : Strs w v l) (hlen : l.length ≤ 9223372036854775806) :
    CallsIn Fence.wide n Try.prog 12 #[v] w fun e w' => e = .returned (.bool (risingT l)) ∧ Below w.heap.size w w' := by
  have h1 : 1 ≤ n := by omega
  obtain ⟨ad, c, rfl, _⟩ := strs_cell hv
  refine callsIn_of_wp_marks Try.func12 rfl trivial ?_ rfl
  simp only [Try.ntmps12, List.size_toArray, List.length_cons, List.length_nil, Nat.reduceAdd, Nat.reduceSub, Array.replicate_succ, Array.replicate_zero, List.push_toArray, List.append_toArray, List.nil_append, List.cons_append]
  gi_wp2_with (refine ⟨trivial, ?_⟩; gi_at_call 28; refine (callsIn_wide.2 (neighbours_any _ ⟨_, _, _, rfl⟩ _)).mono ?_; rintro e w' ⟨rfl, rfl⟩)
  obtain ⟨x0, x1, xb⟩ := two_boxes w (.bool false) (.slice ad l.length c) 4
  obtain ⟨W0, hW0⟩ : ∃ W0, W0 = (w.alloc (.cells #[.bool false] 4)).alloc (.cells #[.slice ad l.length c] 22) := ⟨_, rfl⟩
  rw [← hW0] at x0 x1 xb ⊢
  clear hW0
  have n0 : w.heap.size < w.heap.size + 1 := by omega
  generalize w.heap.size + 1 = bs at x1 n0 ⊢
  have hsz0 := xb.size
  refine wpIn_range_to h1 (gf := 37) (lb := #[.pointer (some ⟨bs, 0, none⟩)]) rfl (enters_of Try.func37 (by kernel_rfl) rfl)
    (pairs_iter (n - 1) (by omega) 0 l ad c bs hlen W0) (fun _ => rfl) (RiseI l (.slice ad l.length c) w w.heap.size bs) (RiseX l w w.heap.size)
    (fun k a' W => a' = { tmps := #[.slice ad l.length c, undef, .pointer (some ⟨w.heap.size, 0, none⟩), .string (at' l (k - 1)), .string (at' l k), .slice ad l.length c, .func (.func 37) #[] #[.pointer (some ⟨bs, 0, none⟩)], .string (at' l (k - 1)), .string (at' l k), undef, undef, undef, undef], defers := [] })
    ?bi ?bc ?bx ?ba ?bm ?start ?assign ?body ?done ?stop
  case bi => exact fun x W W' row h hg hr => h.turned hg (off_own hr) (off_own hr) (fun r e => by have := (hr r e).1; omega)
  case bc => exact fun x W W' row h hg hr => h.turned hg (off_cells hr (by decide)) (off_cells hr (by decide)) (fun r e => by have := (hr r e).1; omega)
  case bx => exact fun c W W' row h hg hr => h.turned hg (off_own hr) (fun r e => by have := (hr r e).1; omega)
  case ba => exact fun x a' W W' row h hg hr => h
  case bm => exact fun R x W h => ⟨h.1.hbox, hv.below h.1.hbelow⟩
  case start => exact ⟨⟨_, x0⟩, x1, xb, fun i hi => by omega, Nat.le_refl _⟩
  case assign =>
    intro y k W hI
    dsimp only [pairArgs]
    gi_wp2
    exact ⟨(KeepsOthers.refl _).from _, fun r cs fz hr => hr, hI, trivial⟩
  case body =>
    rintro y k a' W hnf hI rfl
    obtain ⟨x, hx⟩ := hI.hok
    have hc4 := hx.cell
    have hf4 := hx.frozen
    have hk1 := hI.hk
    have hlt : k < l.length := by omega
    obtain ⟨r, hr⟩ : ∃ r, lessT (at' l (k - 1)) (at' l k) = r := ⟨_, rfl⟩
    have q18 : ∀ w0, Calls Try.prog 18 #[.string (at' l (k - 1)), .string (at' l k)] w0 fun e w' => e = .returned (.bool r) ∧ w0 = w' := fun w0 => by
      rw [← hr]; exact less_any (at' l (k - 1)) (at' l k) w0
    have HR := Lib.hid hr
    have HK := Lib.hid hk1
    have hbx := hx.set (.bool false)
    have hn2 : 1 ≤ n - 1 - 1 := by omega
    clear hr hk1 hx
    generalize at' l (k - 1) = X at q18 ⊢
    generalize at' l k = Y at q18 ⊢
    cases r
    · gi_wp2_with (refine ⟨trivial, ?_⟩; gi_at_call 18; refine (CallsIn.inRound y (callsIn_wide.2 (q18 _))).mono ?_; rintro e w' ⟨rfl, rfl⟩)
      have hk := HK.out
      exact ⟨(KeepsOthers.setCell W _ _).from _, rfl, hbx, hI.hbelow.setCell (p := ⟨w.heap.size, 0, none⟩) (Nat.le_refl _) _, rising_not (i := k - 1) (by omega) (by rw [show k - 1 + 1 = k by omega]; exact HR.out)⟩
    · gi_wp2_with (refine ⟨trivial, ?_⟩; gi_at_call 18; refine (CallsIn.inRound y (callsIn_wide.2 (q18 _))).mono ?_; rintro e w' ⟨rfl, rfl⟩)
      have hk := HK.out
      exact ⟨(KeepsOthers.refl _).from _, fun r cs fz hr => hr, k + 1, rfl, hI.hok, hI.hbox, hI.hbelow, fun i hi hil => by
        rcases Nat.lt_or_ge (i + 1) k with h | h
        · exact hI.hup i h hil
        · rw [show i = k - 1 by omega, show k - 1 + 1 = k by omega]; exact HR.out, by omega⟩
  case done =>
    rintro D k W hD hfin hI hK
    obtain ⟨x, hx⟩ := hI.hok
    have hc4 := hx.cell
    have hf4 := hx.frozen
    have hbx := hx.set (.bool true)
    have HR := Lib.hid ((rising_iff l).2 fun i hi => hI.hup i (by omega) hi)
    have hbw := hI.hbelow
    clear hI hx
    gi_wp2
    have hK' := (KeepsOthers.setCell W ⟨w.heap.size, 0, none⟩ (.bool true)).same D _ hK rfl
    have hbs : Below w.heap.size w (W.setCell ⟨w.heap.size, 0, none⟩ (.bool true)) := hbw.setCell (p := ⟨w.heap.size, 0, none⟩) (Nat.le_refl _) _
    have hg := grownBy_putObj' (W.setCell ⟨w.heap.size, 0, none⟩ (.bool true)) D (.deferred none)
    have q1 := (boxed_off hbx hg (off_own (B := D) (fun r e => by cases e; exact ⟨Nat.le_refl _, _, hK', rfl⟩))).cell
    refine ⟨by simp, .inl ⟨_, _, rfl, run_takeDeferred hK', ?_⟩⟩
    exact ⟨.bool true, by simp [results, Try.results12, go_sem, q1], by rw [HR.out], hbs.grown hg hbs.size (fun k e => by cases e; omega)⟩
  case stop =>
    rintro D c W hD hX hK
    obtain ⟨rfl, hx, hbw, hnot⟩ := hX
    gi_wp2
    have hg := grownBy_putObj' W D (.deferred none)
    have q1 := (boxed_off hx hg (off_own (B := D) (fun r e => by cases e; exact ⟨Nat.le_refl _, _, hK, rfl⟩))).cell
    refine ⟨by simp, .inl ⟨_, _, rfl, run_takeDeferred hK, ?_⟩⟩
    exact ⟨.bool false, by simp [results, Try.results12, go_sem, q1], by rw [hnot], hbw.grown hg hbw.size (fun k e => by cases e; omega)⟩

theorem rising_any (l : List ByteArray) (v : Value) (w : World) (hv : Strs w v l) (hlen : l.length ≤ 9223372036854775806) :
    Calls Try.prog 12 #[v] w fun e w' => e = .returned (.bool (risingT l)) ∧ Below w.heap.size w w' :=
  callsIn_wide.1 (rising_in 6 (Nat.le_refl _) l v w hv hlen)
end Go.Proofs.Ytmciflpabnfeiaa

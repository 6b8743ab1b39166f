/-
  The walk of vary.Row: a range over the function that vary.gots hands back.
-/
import Derived.Test.YtnndabjhdhnleaaVRowKit
namespace Go.Proofs.Ytnndabjhdhnleaa
open Go.RowKit Go.Shelf

attribute [local go_sem] Oper.semAt_some

set_option maxRecDepth 100000 in
set_option maxHeartbeats 2000000 in
theorem row_in (n : Nat) (hn : 6 ≤ n) (s : ByteArray) (L : List UInt8) (hL : L = s.data.toList) (a many : Int) (w : World) (hs : s.size ≤ 1000000) (hm : ¬ many < 1) :
    CallsIn Fence.wide n Try.prog 18 #[.string s, .int .i64 a, .int .i64 many] w fun e w' =>
      ∃ v, e = .returned (.tuple #[v, .int .i64 (Plain.row L a many).2.1, .int .i64 ((Plain.row L a many).2.2 : Nat)]) ∧ Nums w' v (Plain.row L a many).1 ∧ Below w.heap.size w w' := by
  subst hL
  have hsm : s.size ≤ maxLen := by unfold maxLen; omega
  have h1 : 1 ≤ n := by omega
  refine callsIn_of_wp_marks Try.func18 rfl trivial ?_ rfl
  simp only [Try.ntmps18, List.size_toArray, List.length_cons, List.length_nil, Nat.reduceAdd, Nat.reduceSub, Array.replicate_succ, Array.replicate_zero, List.push_toArray, List.append_toArray, List.nil_append, List.cons_append]
  gi_wp2_with (refine ⟨trivial, ?_⟩; gi_at_call 23; refine (callsIn_wide.2 (gots_any s a _)).mono ?_; rintro e w' ⟨rfl, rfl⟩)
  obtain ⟨W0, hW0⟩ : ∃ W0, W0 = ((((((w.alloc (.cells #[.int .i64 many] 3)).alloc (.cells #[.slice none 0 0] 22)).alloc (.cells #[.int .i64 0] 3)).alloc (.cells #[.int .i64 0] 43)).alloc (.cells #[.string s] 9)).alloc (.cells #[.int .i64 a] 3)) := ⟨_, rfl⟩
  have x0 : Boxed W0 w.heap.size 3 (.int .i64 many) := by rw [hW0]; exact (((((Boxed.new w 3 _).alloc _).alloc _).alloc _).alloc _).alloc _
  have x1 : Boxed W0 (w.heap.size + 1) 22 (.slice none 0 0) := by
    rw [hW0]; have := (((((Boxed.new (w.alloc (.cells #[.int .i64 many] 3)) 22 (.slice none 0 0)).alloc (.cells #[.int .i64 0] 3)).alloc (.cells #[.int .i64 0] 43)).alloc (.cells #[.string s] 9)).alloc (.cells #[.int .i64 a] 3)); simpa only [World.size_alloc] using this
  have x2 : Boxed W0 (w.heap.size + 1 + 1) 3 (.int .i64 0) := by
    rw [hW0]; have := ((((Boxed.new ((w.alloc (.cells #[.int .i64 many] 3)).alloc (.cells #[.slice none 0 0] 22)) 3 (.int .i64 0)).alloc (.cells #[.int .i64 0] 43)).alloc (.cells #[.string s] 9)).alloc (.cells #[.int .i64 a] 3)); simpa only [World.size_alloc] using this
  have x3 : Boxed W0 (w.heap.size + 1 + 1 + 1) 43 (.int .i64 0) := by
    rw [hW0]; have := (((Boxed.new (((w.alloc (.cells #[.int .i64 many] 3)).alloc (.cells #[.slice none 0 0] 22)).alloc (.cells #[.int .i64 0] 3)) 43 (.int .i64 0)).alloc (.cells #[.string s] 9)).alloc (.cells #[.int .i64 a] 3)); simpa only [World.size_alloc] using this
  have x4 : Boxed W0 (w.heap.size + 1 + 1 + 1 + 1) 9 (.string s) := by
    rw [hW0]; have := ((Boxed.new ((((w.alloc (.cells #[.int .i64 many] 3)).alloc (.cells #[.slice none 0 0] 22)).alloc (.cells #[.int .i64 0] 3)).alloc (.cells #[.int .i64 0] 43)) 9 (.string s)).alloc (.cells #[.int .i64 a] 3)); simpa only [World.size_alloc] using this
  have x5 : Boxed W0 (w.heap.size + 1 + 1 + 1 + 1 + 1) 3 (.int .i64 a) := by
    rw [hW0]; have := Boxed.new (((((w.alloc (.cells #[.int .i64 many] 3)).alloc (.cells #[.slice none 0 0] 22)).alloc (.cells #[.int .i64 0] 3)).alloc (.cells #[.int .i64 0] 43)).alloc (.cells #[.string s] 9)) 3 (.int .i64 a); simpa only [World.size_alloc] using this
  have hb0 : Below w.heap.size w W0 := by
    rw [hW0]
    exact ((((((Below.refl _ w).alloc (Nat.le_refl _) _).alloc (by simp) _).alloc (by simp; omega) _).alloc (by simp; omega) _).alloc (by simp; omega) _).alloc (by simp; omega) _
  rw [← hW0]
  clear hW0
  have n0 : w.heap.size < w.heap.size + 1 := by omega
  generalize w.heap.size + 1 = b1 at x1 x2 x3 x4 x5 n0 ⊢
  have n1 : b1 < b1 + 1 := by omega
  generalize b1 + 1 = b2 at x2 x3 x4 x5 n1 ⊢
  have n2 : b2 < b2 + 1 := by omega
  generalize b2 + 1 = b3 at x3 x4 x5 n2 ⊢
  have n3 : b3 < b3 + 1 := by omega
  generalize b3 + 1 = b4 at x4 x5 n3 ⊢
  have n4 : b4 < b4 + 1 := by omega
  generalize b4 + 1 = b5 at x5 n4 ⊢
  have hsz0 := hb0.size
  refine wpIn_range_cells h1 (gf := 25) (lb := #[.pointer (some ⟨b5, 0, none⟩), .pointer (some ⟨b4, 0, none⟩)]) rfl (enters_of Try.func25 (by kernel_rfl) rfl)
    (gots_iter (n - 1) (by omega) s a b5 b4 hsm W0 x5) (fun _ => rfl) (RowI s.data.toList s a many w w.heap.size b1 b2 b3 b4) (RowX s.data.toList a many w b1 b2 b3)
    (fun x a' W => ∃ b9, Boxed9 W b9 (Plain.get s.data.toList x.2) ∧ a' = { tmps := #[.string s, .int .i64 a, .int .i64 many, undef, undef, .pointer (some ⟨w.heap.size, 0, none⟩), .pointer (some ⟨b1, 0, none⟩), .pointer (some ⟨b2, 0, none⟩), .pointer (some ⟨b3, 0, none⟩), .pointer (some ⟨b9, 0, none⟩), .int .i64 many, .bool false, undef, .string s, .int .i64 a, .func (.func 25) #[] #[.pointer (some ⟨b5, 0, none⟩), .pointer (some ⟨b4, 0, none⟩)], gotAgg (Plain.get s.data.toList x.2), undef, undef, undef, undef, undef, undef, undef, undef, undef, undef, undef, undef, undef, undef, undef, undef, undef, undef, undef, undef], defers := [] })
    ?bi ?bc ?bx ?ba ?bm ?start ?assign ?body ?done ?stop
  case bi => exact fun x W W' row h hg hr => h.turned hg (off_own hr) (off_own hr) (off_own hr) (off_own hr) (off_own hr) (fun r e => by have := (hr r e).1; omega)
  case bc => exact fun x W W' row h hg hr => h.turned hg (off_cells hr (by decide)) (off_cells hr (by decide)) (off_cells hr (by decide)) (off_cells hr (by decide)) (off_cells hr (by decide)) (fun r e => by have := (hr r e).1; omega)
  case bx => exact fun c W W' row h hg hr => h.turned hg (off_own hr) (off_own hr) (off_own hr) (off_own hr) (fun r e => by have := (hr r e).1; omega)
  case ba =>
    rintro x a' W W' row ⟨b9, h9, rfl⟩ hg hr
    exact ⟨b9, boxed9_off h9 hg (off_own hr), rfl⟩
  case bm => exact fun R x W h => h.1.hstr
  case start =>
    exact ⟨x0, ⟨_, x1, by simpa [u64s] using World.ownsRow_nil W0 w.heap.size 25 1⟩, ⟨_, x2⟩, ⟨_, x3⟩, x4, hb0, by simp; omega, by simp [Plain.row], .inl rfl⟩
  case assign =>
    intro l x W hI
    dsimp only [gotAgg]
    gi_wp2
    refine ⟨(KeepsOthers.alloc _ _).from _, fun r cs fz hr => (Below.heap_alloc W _ r (Array.getElem?_eq_some_iff.1 hr).1).trans hr, hI.turned (World.grownBy_alloc W _ none) (fun r cs fz e => by cases e) (fun r cs fz e => by cases e) (fun r cs fz e => by cases e) (fun r cs fz e => by cases e) (fun r cs fz e => by cases e) (fun r e => by cases e), W.heap.size, World.alloc_heap_new W _, ?_⟩
    rfl
  case body =>
    rintro l ⟨acc, p⟩ a' W hI ⟨b9, h9, rfl⟩
    have hnext := hI.hrow
    obtain ⟨v, hv, hown⟩ := hI.hlist
    obtain ⟨y2, hy2⟩ := hI.hnext
    obtain ⟨y3, hy3⟩ := hI.herr
    have hmany := hI.hmany
    obtain ⟨r0, hr0⟩ : ∃ r0, Plain.get s.data.toList p = r0 := ⟨_, rfl⟩
    dsimp only at hnext hown h9 ⊢
    rw [hr0] at h9 ⊢
    obtain ⟨n9, p9, e9⟩ := r0
    dsimp only [gotAgg]
    have c0 : W.cell? ⟨b9, 0, none⟩ = some (.int .u64 n9) := by rw [Lib.cell_of_heap h9]; rfl
    have c1 : W.cell? ⟨b9, 1, none⟩ = some (.int .i64 p9) := by rw [Lib.cell_of_heap h9]; rfl
    have c2 : W.cell? ⟨b9, 2, none⟩ = some (.int .i64 e9) := by rw [Lib.cell_of_heap h9]; rfl
    have k0 := hmany.cell
    have k1 := hv.cell
    have k2 := hy2.cell
    have k3 := hy3.cell
    have f1 := hv.frozen
    have f2 := hy2.frozen
    have f3 := hy3.frozen
    by_cases he : e9 = 0
    · subst he
      obtain ⟨i0, hi, hz0, hz1, hz2⟩ := info_parts i25
      have hroom := hI.hroom
      dsimp only at hroom
      have hok := Plain.get_ok (s := s.data.toList) (p := p) (by rw [hr0])
      rw [hr0] at hok
      obtain ⟨k, u, hpk, hp9, hu, hku, _, hn64⟩ := hok
      dsimp only at hp9 hn64
      rw [ba_length] at hku hroom
      have hacc : (acc.length : Int) ≤ k := by
        rcases hroom with rfl | ⟨h, _⟩
        · simp
        · omega
      obtain ⟨W2, hW2⟩ : ∃ W2, W2 = (W.alloc (.cells #[.int .u64 (n9 : Int)] 25)).drew := ⟨_, rfl⟩
      have hb2w : Below W.heap.size W W2 := by rw [hW2]; exact Below.drew ((Below.refl _ W).alloc (Nat.le_refl _) _)
      have hown2 : W2.ownsRow w.heap.size 25 1 v acc.length (u64s acc) := by rw [hW2]; exact hown.alloc _
      have hsz2 : W2.heap.size = W.heap.size + 1 := by rw [hW2]; simp
      have hbs := hI.hbelow.size
      obtain ⟨v', w1, hrun, hown1, hgrow, _⟩ := run_append_own (P := Try.prog) W2 w.heap.size 22 22 25 i0 (.int .u64 0) 1 8 Try.underlying22 hi hz0 hz1 hz2 rfl (by decide) v acc.length (u64s acc) hown2 ⟨W.heap.size, 0, none⟩ 1 1 [.int .u64 (n9 : Int)] rfl (by
          intro j x hj
          match j, hj with
          | 0, hj => simp at hj; subst hj; rw [hW2]; simp [Addr.add, go_sem]) (by simp [Value.oneCell']) (by unfold maxLen; omega) (by omega) (by omega)
      obtain ⟨g, cap, rfl⟩ := ownsRow_succ hown1
      have hoff : ∀ t, 25 ≠ t → OffT W2 v.ownBlock t := fun t ht => off_cells (owns_cells hown2) ht
      have hrowc := owns_cells hown2
      have u0 : Boxed w1 w.heap.size 3 (.int .i64 many) := boxed_off (boxed_below hmany hb2w) hgrow (hoff 3 (by decide))
      have u1 : Boxed w1 b1 22 v := boxed_off (boxed_below hv hb2w) hgrow (hoff 22 (by decide))
      have u2 : Boxed w1 b2 3 y2 := boxed_off (boxed_below hy2 hb2w) hgrow (hoff 3 (by decide))
      have u3 : Boxed w1 b3 43 y3 := boxed_off (boxed_below hy3 hb2w) hgrow (hoff 43 (by decide))
      have u4 : Boxed w1 b4 9 (.string s) := boxed_off (boxed_below hI.hstr hb2w) hgrow (hoff 9 (by decide))
      have hlt9 := (Array.getElem?_eq_some_iff.1 h9).1
      have u9 : w1.heap[b9]? = W.heap[b9]? := by
        rw [hgrow.block b9 (by omega) (fun e => hoff 56 (by decide) b9 _ _ e.symm ((hb2w.block b9 hlt9).trans h9)), hb2w.block b9 hlt9]
      have e1 : w1.cell? ⟨b9, 1, none⟩ = some (.int .i64 p9) := (World.cell?_of_block (a := ⟨b9, 1, none⟩) u9).trans c1
      have hs12 : w1.heap.size ≥ W.heap.size := Nat.le_trans hb2w.size hgrow.size
      obtain ⟨Wa, hWa⟩ : ∃ Wa, Wa = w1.setCell ⟨b1, 0, none⟩ (.slice (some ⟨g, 0, none⟩) (acc.length + 1) cap) := ⟨_, rfl⟩
      have ga : w1.grownBy Wa (some b1) := hWa ▸ grownBy_setCell' w1 b1 _
      have d12 : some b1 ≠ some b2 := fun e => by injection e with e; omega
      have a0 : Boxed Wa w.heap.size 3 (.int .i64 many) := boxed_off u0 ga (off_box u1 (by decide))
      have a1 : Boxed Wa b1 22 (.slice (some ⟨g, 0, none⟩) (acc.length + 1) cap) := hWa ▸ u1.set _
      have a2 : Boxed Wa b2 3 y2 := boxed_off u2 ga (off_box u1 (by decide))
      have a3 : Boxed Wa b3 43 y3 := boxed_off u3 ga (off_box u1 (by decide))
      have a4 : Boxed Wa b4 9 (.string s) := boxed_off u4 ga (off_box u1 (by decide))
      have ao := owns_off hown1 ga (off_box u1 (by decide))
      obtain ⟨Wf, hWf⟩ : ∃ Wf, Wf = Wa.setCell ⟨b2, 0, none⟩ (.int .i64 p9) := ⟨_, rfl⟩
      have gf : Wa.grownBy Wf (some b2) := hWf ▸ grownBy_setCell' Wa b2 _
      have z0 : Boxed Wf w.heap.size 3 (.int .i64 many) := a0.kept gf (fun e => by injection e with e; omega)
      have z1 : Boxed Wf b1 22 (.slice (some ⟨g, 0, none⟩) (acc.length + 1) cap) := boxed_off a1 gf (off_box a2 (by decide))
      have z2 : Boxed Wf b2 3 (.int .i64 p9) := hWf ▸ a2.set _
      have z3 : Boxed Wf b3 43 y3 := boxed_off a3 gf (off_box a2 (by decide))
      have z4 : Boxed Wf b4 9 (.string s) := boxed_off a4 gf (off_box a2 (by decide))
      have zo := owns_off ao gf (off_box a2 (by decide))
      have hkf : KeepsFrom W0.heap.size W Wf := by
        have k1 : KeepsOthers W W2 := by rw [hW2]; exact (KeepsOthers.alloc W _).trans (KeepsOthers.drew _)
        have k2 : KeepsOthers W2 w1 := KeepsOthers.of_grownBy hgrow (fun j o e hj => by
          obtain ⟨_, cs, fz, hc⟩ := hrowc j e
          rw [hj] at hc; cases hc; rfl)
        have k3 : KeepsOthers w1 Wa := hWa ▸ KeepsOthers.setCell w1 _ _
        have k4 : KeepsOthers Wa Wf := hWf ▸ KeepsOthers.setCell Wa _ _
        exact (((k1.trans k2).trans k3).trans k4).from _
      have hkc : KeepsCells 56 W Wf := by
        have k1 : KeepsCells 56 W W2 := fun r cs fz h => (hb2w.block r (Array.getElem?_eq_some_iff.1 h).1).trans h
        exact ((k1.trans (keepsCells_grown hgrow (hoff 56 (by decide)))).trans (keepsCells_grown ga (off_box u1 (by decide)))).trans (keepsCells_grown gf (off_box a2 (by decide)))
      have hbf : Below w.heap.size w Wf := by
        have q1 := (hI.hbelow.trans (hb2w.mono hbs)).grown hgrow (by omega) (fun k e => (hrowc k e).1)
        exact (q1.grown ga (by omega) (fun k e => by cases e; omega)).grown gf (by have := ga.size; omega) (fun k e => by cases e; omega)
      have hu : u64s acc ++ [.int .u64 (n9 : Int)] = u64s (acc ++ [n9]) := by simp [u64s]
      rw [hu] at zo
      have hless := hI.hless
      dsimp only at hless
      have hrow1 : Plain.rowFrom s.data.toList (many.toNat - acc.length - 1) (acc ++ [n9]) p9 = Plain.row s.data.toList a many := by
        rw [← hnext, show many.toNat - acc.length = (many.toNat - acc.length - 1) + 1 by omega, Plain.rowFrom, hr0]
        simp
      have l1 := z1.cell
      have l0 := z0.cell
      have m1 : ∀ o, (W.alloc o).cell? ⟨b1, 0, none⟩ = some v := fun o => (World.cell?_of_block (a := ⟨b1, 0, none⟩) (Below.heap_alloc W o b1 hv.lt)).trans k1
      have m2 : ∀ o, (W.alloc o).cell? ⟨b9, 1, none⟩ = some (.int .i64 p9) := fun o => (World.cell?_of_block (a := ⟨b9, 1, none⟩) (Below.heap_alloc W o b9 hlt9)).trans c1
      rw [hWa] at hWf
      have t1 := u1.cell
      have t2 := u2.cell
      have tf1 := u1.frozen
      have tf2 := u2.frozen
      rw [hW2] at hrun
      clear hWa ga ao a0 a1 a2 a3 a4 gf hnext hoff hown1 hown2 hrowc u9 hW2 hgrow hb2w
      have HR := Lib.hid hrow1; clear hrow1
      have HP := Lib.hid hp9; clear hp9
      have HK := Lib.hid hpk; clear hpk
      have hcase : (((acc.length : Int) + 1 == many) = true ∧ RowX s.data.toList a many w b1 b2 b3 (.exit 0) Wf) ∨ (((acc.length : Int) + 1 == many) = false ∧ nextGot s.data.toList (acc, p) (acc ++ [n9], p9) ∧ RowI s.data.toList s a many w w.heap.size b1 b2 b3 b4 (acc ++ [n9], p9) Wf) := by
        by_cases hlast : (acc.length : Int) + 1 = many
        · refine .inl ⟨by simpa using hlast, _, p9, y3, z1, z2, z3, hbf, .inr ⟨rfl, acc ++ [n9], by simpa using zo, ?_⟩⟩
          rw [← HR.out, show many.toNat - acc.length - 1 = 0 by omega, Plain.rowFrom]
        · have hp9 := HP.out
          refine .inr ⟨by simpa using hlast, ⟨by rw [hr0], by rw [hr0]⟩, z0, ⟨_, z1, by simpa using zo⟩, ⟨_, z2⟩, ⟨_, z3⟩, z4, hbf, by simp; omega, ?_, .inr ⟨by simp; omega, by rw [ba_length]; dsimp only; omega⟩⟩
          rw [← HR.out]
          simp only [List.length_append, List.length_cons, List.length_nil]
          rw [show many.toNat - (acc.length + (0 + 1)) = many.toNat - acc.length - 1 by omega]
      clear z0 z1 z2 z3 z4 zo hbf
      gi_wp2
      refine region_inRound (by kernel_rfl) (by kernel_rfl) ?_
      refine wpAnyIn_take (i := 1) (v := .pointer (some ⟨b9, 0, none⟩)) rfl rfl (by kernel_rfl) (by kernel_rfl) (by kernel_rfl) (fun _ _ _ h => h) ⟨Or.inl ⟨by rfl, by intro w; go_simp⟩, fun _ => rfl⟩ ?_
      refine wpAnyIn_take (i := 5) (v := .pointer (some ⟨b9, 1, none⟩)) rfl rfl (by kernel_rfl) (by kernel_rfl) (by kernel_rfl) (fun _ _ _ h => h) ⟨Or.inl ⟨by rfl, by intro w; go_simp⟩, fun _ => rfl⟩ ?_
      repeat' (first
        | exact AllReadyIn.nil
        | (refine wpAnyIn_done (by decide +kernel) ?_ _)
        | (refine wpAnyIn_ready (rs := [0, 2, 6]) (by decide +kernel) (by simp) ?_)
        | (refine wpAnyIn_ready (rs := [2, 6]) (by decide +kernel) (by simp) ?_)
        | (refine wpAnyIn_ready (rs := [0, 3, 6]) (by decide +kernel) (by simp) ?_)
        | (refine wpAnyIn_ready (rs := [0, 6]) (by decide +kernel) (by simp) ?_)
        | (refine wpAnyIn_ready (rs := [3, 6]) (by decide +kernel) (by simp) ?_)
        | (refine wpAnyIn_ready (rs := [4, 6]) (by decide +kernel) (by simp) ?_)
        | (refine wpAnyIn_ready (rs := [6, 7]) (by decide +kernel) (by simp) ?_)
        | (refine wpAnyIn_ready (rs := [0, 2]) (by decide +kernel) (by simp) ?_)
        | (refine wpAnyIn_ready (rs := [0, 3]) (by decide +kernel) (by simp) ?_)
        | (refine wpAnyIn_ready (rs := [0]) (by decide +kernel) (by simp) ?_)
        | (refine wpAnyIn_ready (rs := [2]) (by decide +kernel) (by simp) ?_)
        | (refine wpAnyIn_ready (rs := [3]) (by decide +kernel) (by simp) ?_)
        | (refine wpAnyIn_ready (rs := [4]) (by decide +kernel) (by simp) ?_)
        | (refine wpAnyIn_ready (rs := [6]) (by decide +kernel) (by simp) ?_)
        | (refine wpAnyIn_ready (rs := [7]) (by decide +kernel) (by simp) ?_)
        | (refine wpAnyIn_ready (rs := [8]) (by decide +kernel) (by simp) ?_)
        | ((with_reducible (show AllReadyIn _ _ _ _ _ _ _ _ _ _ (4 :: _))); refine AllReadyIn.cons rfl (fun K hK => step_append_known rfl (.tmp 24) (.tmp 27) 22 rfl v (.slice (some ⟨W.heap.size, 0, none⟩) 1 1) _ _ (by rfl) (by rfl) hrun (fun _ _ => trivial) (hK _ _ ?_)) ?_)
        | (refine AllReadyIn.cons rfl (fun K hK => ?_) ?_)
        | (go_simp; refine hK _ _ ?_; clear hK K))
      all_goals rw [← hWf]
      all_goals clear hWf
      all_goals (rcases hcase with ⟨hl', hx⟩ | ⟨hl', hx⟩)
      all_goals gi_wp2
      all_goals first
        | exact ⟨hkf, hx⟩
        | exact ⟨hkf, hkc, _, hx.1, hx.2⟩
    · have he' : ((e9 : Int) == 0) = false := by simp; omega
      obtain ⟨W3, hW3⟩ : ∃ W3, W3 = ((W.setCell ⟨b1, 0, none⟩ (.slice none 0 0)).setCell ⟨b2, 0, none⟩ (.int .i64 p9)).setCell ⟨b3, 0, none⟩ (.int .i64 e9) := ⟨_, rfl⟩
      have hkf : KeepsFrom W0.heap.size W W3.drew := by
        rw [hW3]
        exact ((((KeepsOthers.setCell W _ _).trans (KeepsOthers.setCell _ _ _)).trans (KeepsOthers.setCell _ _ _)).trans (KeepsOthers.drew _)).from _
      have d12 : some b1 ≠ some b2 := fun e => by injection e with e; omega
      have d13 : some b1 ≠ some b3 := fun e => by injection e with e; omega
      have d23 : some b2 ≠ some b3 := fun e => by injection e with e; omega
      have hrx : RowX s.data.toList a many w b1 b2 b3 .ret W3.drew := by
        rw [hW3]
        refine ⟨.slice none 0 0, p9, .int .i64 e9, ?_, ?_, ?_, ?_, .inl ⟨rfl, rfl, e9, rfl, ?_⟩⟩
        · exact boxed_drew (((hv.set _).kept (grownBy_setCell' _ b2 _) d12).kept (grownBy_setCell' _ b3 _) d13)
        · exact boxed_drew (((hy2.kept (grownBy_setCell' _ b1 _) d12.symm).set _).kept (grownBy_setCell' _ b3 _) d23)
        · exact boxed_drew (((hy3.kept (grownBy_setCell' _ b1 _) d13.symm).kept (grownBy_setCell' _ b2 _) d23.symm).set _)
        · exact Below.drew (((hI.hbelow.setCell (p := ⟨b1, 0, none⟩) (by show w.heap.size ≤ b1; omega) _).setCell (p := ⟨b2, 0, none⟩) (by show w.heap.size ≤ b2; omega) _).setCell (p := ⟨b3, 0, none⟩) (by show w.heap.size ≤ b3; omega) _)
        · have hl := hI.hless
          dsimp only at hl
          rw [← hnext, show many.toNat - acc.length = (many.toNat - acc.length - 1) + 1 by omega, Plain.rowFrom, hr0, if_neg he]
      rw [hW3] at hkf hrx
      clear hW3
      gi_wp2
      refine region_inRound (by kernel_rfl) (by kernel_rfl) ?_
      refine wpAnyIn_take (i := 0) (v := .pointer (some ⟨b9, 1, none⟩)) rfl rfl (by kernel_rfl) (by kernel_rfl) (by kernel_rfl) (fun _ _ _ h => h) ⟨Or.inl ⟨by rfl, by intro w; go_simp⟩, fun _ => rfl⟩ ?_
      refine wpAnyIn_take (i := 2) (v := .pointer (some ⟨b9, 2, none⟩)) rfl rfl (by kernel_rfl) (by kernel_rfl) (by kernel_rfl) (fun _ _ _ h => h) ⟨Or.inl ⟨by rfl, by intro w; go_simp⟩, fun _ => rfl⟩ ?_
      repeat' (first
        | exact AllReadyIn.nil
        | (refine wpAnyIn_done (by decide +kernel) ?_ _)
        | (refine wpAnyIn_ready (rs := [1, 3, 4]) (by decide +kernel) (by simp) ?_)
        | (refine wpAnyIn_ready (rs := [3, 4]) (by decide +kernel) (by simp) ?_)
        | (refine wpAnyIn_ready (rs := [1, 4]) (by decide +kernel) (by simp) ?_)
        | (refine wpAnyIn_ready (rs := [1, 3]) (by decide +kernel) (by simp) ?_)
        | (refine wpAnyIn_ready (rs := [3, 5]) (by decide +kernel) (by simp) ?_)
        | (refine wpAnyIn_ready (rs := [1]) (by decide +kernel) (by simp) ?_)
        | (refine wpAnyIn_ready (rs := [3]) (by decide +kernel) (by simp) ?_)
        | (refine wpAnyIn_ready (rs := [4]) (by decide +kernel) (by simp) ?_)
        | (refine wpAnyIn_ready (rs := [5]) (by decide +kernel) (by simp) ?_)
        | (refine wpAnyIn_ready (rs := [6]) (by decide +kernel) (by simp) ?_)
        | (refine AllReadyIn.cons rfl (fun K hK => ?_) ?_)
        | (go_simp; refine hK _ _ ?_; clear hK K))
      all_goals gi_wp2
      all_goals exact ⟨hkf, hrx⟩
  case done => exact fun _ _ _ _ hf => hf.elim
  case stop =>
    rintro D c W hD hX hK
    obtain ⟨v, p, y, hv, hp, hy, hbW, hc⟩ := hX.it
    have k1 := hv.cell
    have k2 := hp.cell
    have k3 := hy.cell
    have f1 := hv.frozen
    have f2 := hp.frozen
    have f3 := hy.frozen
    clear hX x0 x1 x2 x3 x4 x5
    -- the block for deferred calls is shut behind the function
    have shut : ∀ (W' : World), Boxed W' b1 22 v → W'.heap[D]? = some (.deferred (some [])) → ∀ (p' : Int) (y' : Value), Boxed W' b2 3 (.int .i64 p') → Boxed W' b3 43 y' → Below w.heap.size w W' →
        (W'.putObj D (.deferred none)).grownBy (W'.putObj D (.deferred none)) none ∧ Boxed (W'.putObj D (.deferred none)) b1 22 v ∧ Boxed (W'.putObj D (.deferred none)) b2 3 (.int .i64 p') ∧ Boxed (W'.putObj D (.deferred none)) b3 43 y' ∧ Below w.heap.size w (W'.putObj D (.deferred none)) ∧
          (∀ l, W'.ownsRow w.heap.size 25 1 v l.length (u64s l) → Nums (W'.putObj D (.deferred none)) v l) := by
      intro W' h1 hk p' y' h2 h3 hb
      have hr : ∀ r, some D = some r → D ≤ r ∧ ∃ o : Obj, W'.heap[r]? = some o ∧ o.isCells = false := fun r e => by cases e; exact ⟨Nat.le_refl _, _, hk, rfl⟩
      have hg := grownBy_putObj' W' D (.deferred none)
      exact ⟨⟨rfl, rfl, rfl, Nat.le_refl _, fun _ _ _ => rfl⟩, boxed_off h1 hg (off_own hr), boxed_off h2 hg (off_own hr), boxed_off h3 hg (off_own hr), hb.grown hg hb.size (fun k e => by cases e; omega), fun l ho => nums_of_owns (owns_off ho hg (off_own hr))⟩
    rcases hc with ⟨rfl, rfl, e, rfl, hrow⟩ | ⟨rfl, acc, hown, hrow⟩
    · obtain ⟨_, q1, q2, q3, qb, _⟩ := shut W hv hK p _ hp hy hbW
      have HR := Lib.hid hrow; clear hrow
      gi_wp2
      refine ⟨by simp, .inl ⟨_, _, rfl, run_takeDeferred hK, ?_⟩⟩
      have z1 := q1.cell
      have z2 := q2.cell
      have z3 := q3.cell
      refine ⟨.tuple #[.slice none 0 0, .int .i64 p, .int .i64 e], by simp [results, Try.results18, go_sem, z1, z2, z3], .slice none 0 0, ?_, ?_, qb⟩
      · rw [HR.out]
      · rw [HR.out]; exact nums_nil _
    · obtain ⟨ao, n', cap, rfl⟩ : ∃ ao n' cap, v = .slice ao n' cap := by
        rcases hown.2 with ⟨hv, _⟩ | ⟨g, cap, cur, hv, _⟩
        · exact ⟨_, _, _, hv⟩
        · exact ⟨_, _, _, hv⟩
      have HR := Lib.hid hrow; clear hrow
      gi_wp2
      gi_region
      gi_wp2
      have d12 : some b1 ≠ some b2 := fun e => by injection e with e; omega
      have d13 : some b1 ≠ some b3 := fun e => by injection e with e; omega
      have d23 : some b2 ≠ some b3 := fun e => by injection e with e; omega
      obtain ⟨Wa, hWa⟩ : ∃ Wa, Wa = W.setCell ⟨b1, 0, none⟩ (.slice ao n' cap) := ⟨_, rfl⟩
      obtain ⟨Wb, hWb⟩ : ∃ Wb, Wb = Wa.setCell ⟨b2, 0, none⟩ (.int .i64 p) := ⟨_, rfl⟩
      obtain ⟨Wc, hWc⟩ : ∃ Wc, Wc = (Wb.setCell ⟨b3, 0, none⟩ (.int .i64 0)).drew := ⟨_, rfl⟩
      have ga : W.grownBy Wa (some b1) := hWa ▸ grownBy_setCell' W b1 _
      have gb : Wa.grownBy Wb (some b2) := hWb ▸ grownBy_setCell' Wa b2 _
      have gc : Wb.grownBy (Wb.setCell ⟨b3, 0, none⟩ (.int .i64 0)) (some b3) := grownBy_setCell' Wb b3 _
      have a1 : Boxed Wa b1 22 (.slice ao n' cap) := hWa ▸ hv.set _
      have a2 : Boxed Wa b2 3 (.int .i64 p) := hp.kept ga d12.symm
      have a3 : Boxed Wa b3 43 y := hy.kept ga d13.symm
      have c1 : Boxed Wb b1 22 (.slice ao n' cap) := a1.kept gb d12
      have c2 : Boxed Wb b2 3 (.int .i64 p) := hWb ▸ a2.set _
      have c3 : Boxed Wb b3 43 y := a3.kept gb d23.symm
      have e1 : Boxed Wc b1 22 (.slice ao n' cap) := hWc ▸ boxed_drew (c1.kept gc d13)
      have e2 : Boxed Wc b2 3 (.int .i64 p) := hWc ▸ boxed_drew (c2.kept gc d23)
      have e3 : Boxed Wc b3 43 (.int .i64 0) := hWc ▸ boxed_drew (c3.set _)
      have eo : Wc.ownsRow w.heap.size 25 1 (.slice ao n' cap) acc.length (u64s acc) := by
        have := owns_off (owns_off (owns_off hown ga (off_box hv (by decide))) gb (off_box a2 (by decide))) gc (off_box c3 (by decide))
        rw [hWc]
        exact this
      have ek : KeepsOthers W Wc := by
        rw [hWc, hWb, hWa]
        exact (((KeepsOthers.setCell W _ _).trans (KeepsOthers.setCell _ _ _)).trans (KeepsOthers.setCell _ _ _)).trans (KeepsOthers.drew _)
      have eb : Below w.heap.size w Wc := by
        rw [hWc]
        have := hbW.size
        exact Below.drew (((hbW.grown ga this (fun k e => by cases e; omega)).grown gb (Nat.le_trans this ga.size) (fun k e => by cases e; omega)).grown gc (Nat.le_trans (Nat.le_trans this ga.size) gb.size) (fun k e => by cases e; omega))
      have hK' := ek.same D _ hK rfl
      obtain ⟨_, q1, q2, q3, qb, qn⟩ := shut Wc e1 hK' p _ e2 e3 eb
      rw [← hWa, ← hWb, ← hWc]
      refine ⟨by simp, .inl ⟨_, _, rfl, run_takeDeferred hK', ?_⟩⟩
      have z1 := q1.cell
      have z2 := q2.cell
      have z3 := q3.cell
      refine ⟨.tuple #[.slice ao n' cap, .int .i64 p, .int .i64 0], by simp [results, Try.results18, go_sem, z1, z2, z3], .slice ao n' cap, ?_, ?_, qb⟩
      · rw [HR.out]; rfl
      · rw [HR.out]; exact qn acc eo

theorem row_less (s : ByteArray) (a many : Int) (w : World) (hm : many < 1) :
    Calls Try.prog 18 #[.string s, .int .i64 a, .int .i64 many] w fun e w' => e = .returned (.tuple #[.slice none 0 0, .int .i64 a, .int .i64 0]) ∧ Below w.heap.size w w' := by
  go_enter Try.func18, Try.ntmps18
  go_wp2
  refine bodyPost_ret (v := .tuple #[.slice none 0 0, .int .i64 a, .int .i64 0]) (by simp [results, Try.results18, go_sem]) rfl ⟨rfl, ?_⟩
  exact ((((Below.refl _ w).alloc (Nat.le_refl _) _).alloc (by simp) _).alloc (by simp; omega) _).alloc (by simp; omega) _

theorem row_any (s : ByteArray) (a many : Int) (w : World) (hs : s.size ≤ 1000000) :
    Calls Try.prog 18 #[.string s, .int .i64 a, .int .i64 many] w fun e w' =>
      ∃ v, e = .returned (.tuple #[v, .int .i64 (Plain.row s.data.toList a many).2.1, .int .i64 ((Plain.row s.data.toList a many).2.2 : Nat)]) ∧ Nums w' v (Plain.row s.data.toList a many).1 ∧ Below w.heap.size w w' := by
  by_cases hm : many < 1
  · have e0 : Plain.row s.data.toList a many = ([], a, 0) := by
      unfold Plain.row
      rw [show many.toNat = 0 by omega]
      rfl
    rw [e0]
    exact (row_less s a many w hm).mono fun e w' ⟨he, hb⟩ => ⟨_, by rw [he]; rfl, nums_nil _, hb⟩
  · exact callsIn_wide.1 (row_in 6 (Nat.le_refl _) s _ rfl a many w hs hm)

end Go.Proofs.Ytnndabjhdhnleaa

/-
  Files of a disk in memory: the row of what is there.
-/
import Derived.Test.YtmmoilmfpiclgaaGreatG26
import Derived.Maps.OwnIn
namespace Go.Proofs.YtmmoilmfpiclgaaGreat
open Go.RowKit Go.Shelf
open Fld (FS Names FAct actsOn foundN foundB findT withT withoutT GoodN Rising mayB nam nameMax FolderS FolderIn ARow textsOf)

attribute [local go_sem] Oper.semAt_some
attribute [local instance] Fld.alone

/-- Files, as cells. -/
def fileC (p : List UInt8 × List UInt8) : List Value := [.string (Fld.strO p.1), .string (Fld.strO p.2)]
def filesC (l : List (List UInt8 × List UInt8)) : List Value := l.flatMap fileC

theorem iFile : (Tryz.prog.info? 26).map (fun i => (i.zero, i.size, i.bytes)) = some (some (.agg #[.string ⟨#[]⟩, .string ⟨#[]⟩]), 2, 32) := by kernel_rfl

/-- What Files has made of the first names. -/
def filesT (S : DS) (T : Names) : List (List UInt8 × List UInt8) := T.map fun p => (p.1, (S.file p.2).R)

theorem cells_two_new (w : World) (x y : Value) (t : TypeId) : ∀ j u, [x, y][j]? = some u → (w.alloc (.cells #[x, y] t)).cell? ((⟨w.heap.size, 0, none⟩ : Addr).add j) = some u := by
  intro j u hj
  match j, hj with
  | 0, hj =>
    simp at hj
    subst hj
    simp [Addr.add]
  | 1, hj =>
    simp at hj
    subst hj
    simp [Addr.add]
theorem filesT_take {S : DS} {T : Names} {k : Nat} (h : k < T.length) : filesC (filesT S (T.take (k + 1))) = filesC (filesT S (T.take k)) ++ fileC ((nam T k).1, (S.file (nam T k).2).R) := by
  rw [List.take_succ_eq_append_getElem h, ← Fld.nam_lt h]
  unfold filesC filesT
  rw [List.map_append, List.flatMap_append]
  simp

/-- Behind k names: the box of the row, and the row. -/
structure FilesI (S : DS) (w : World) (p b1 b3 : Nat) (x : Nat × Value) (W : World) : Prop where
  le : x.1 ≤ S.fold.there.length
  box : Boxed W b3 22 x.2
  dbox : Boxed W b1 27 (.pointer (some ⟨p, 0, none⟩))
  row : W.ownsRow w.heap.size 26 2 x.2 x.1 (filesC (filesT S (S.fold.there.take x.1)))
  below : Below w.heap.size w W
theorem FilesI.turned {S : DS} {w : World} {p b1 b3 : Nat} {x : Nat × Value} {W W' : World} {row : Option Nat} (h : FilesI S w p b1 b3 x W) (hg : W.grownBy W' row) (h1 : row ≠ some b1) (h3 : row ≠ some b3) (ho : ∀ g, x.2.ownBlock = some g → row ≠ some g) (hr : ∀ r, row = some r → w.heap.size ≤ r) : FilesI S w p b1 b3 x W' :=
  ⟨h.le, (hg.block b3 h.box.lt (fun e => h3 e.symm)).trans h.box, (hg.block b1 h.dbox.lt (fun e => h1 e.symm)).trans h.dbox, owns_same h.row (fun g hg' => hg.block g (h.row.lt g hg').2 (fun e => ho g hg' e.symm)), h.below.grown hg h.below.size hr⟩

/-- What the range turns. -/
def filesFoot (b3 : Nat) (x : Nat × Value) (g : Nat) : Prop := g = b3 ∨ x.2.ownBlock = some g

set_option maxRecDepth 100000 in
set_option maxHeartbeats 4000000 in
theorem files_in (n : Nat) (hn : 6 ≤ n) {w : World} {p : Nat} {S : DS} {v : DV} (h : DiskP w p S v) (hd : S.down = false) (hl : S.fold.weight ≤ 80000) :
    CallsIn Fence.wide n Tryz.prog 28 #[.pointer (some ⟨p, 0, none⟩)] w fun e w' => ∃ r, e = .returned r ∧ w'.ownsRow w.heap.size 26 2 r (filesT S S.fold.there).length (filesC (filesT S S.fold.there)) ∧ Below w.heap.size w w' := by
  have h1 : 1 ≤ n := by omega
  have QD := Lib.hid (fun W (B : Below w.heap.size w W) => callsIn_wide (n := n - 1) |>.2 (hd ▸ down_any (h.below B)))
  refine callsIn_of_wp_marks Tryz.func28 rfl trivial ?_ rfl
  simp only [Tryz.ntmps28, List.size_toArray, List.length_cons, List.length_nil, Nat.reduceAdd, Nat.reduceSub, Array.replicate_succ, Array.replicate_zero, List.push_toArray, List.append_toArray, List.nil_append, List.cons_append]
  have b1 : Below w.heap.size w (w.alloc (.cells #[.pointer (some ⟨p, 0, none⟩)] 27)) := (Below.refl _ w).alloc (Nat.le_refl _) _
  gi_wp2_with (first
    | (refine ⟨trivial, ?_⟩; gi_at_call 32; go_loud (refine (QD.out _ b1).mono ?_; rintro e w' ⟨rfl, rfl⟩))
    | (refine ⟨trivial, ?_⟩; gi_at_call 57; go_loud (refine (callsIn_wide.2 (there_any _ p)).mono ?_; rintro e w2 ⟨bd, rfl, hbd, hbl, hb2⟩)))
  have b3 := below_duo w (.cells #[.pointer (some ⟨p, 0, none⟩)] 27) (.cells #[.slice none 0 0] 22)
  obtain ⟨o1, o2⟩ := heap_two w (.cells #[.pointer (some ⟨p, 0, none⟩)] 27) (.cells #[.slice none 0 0] 22)
  obtain ⟨w1, hw1⟩ : ∃ w1, (w.alloc (.cells #[.pointer (some ⟨p, 0, none⟩)] 27)).alloc (.cells #[.slice none 0 0] 22) = w1 := ⟨_, rfl⟩
  have hz1 : w1.heap.size = w.heap.size + 1 + 1 := by rw [← hw1]; simp
  rw [hw1] at o1 o2 b3 hb2 hbl
  have i0 : FilesI S w p w.heap.size (w.heap.size + 1) (0, .slice none 0 0) w2 := ⟨Nat.zero_le _, (hb2.block _ (Array.getElem?_eq_some_iff.1 o2).1).trans o2, (hb2.block _ (Array.getElem?_eq_some_iff.1 o1).1).trans o1, World.ownsRow_nil _ _ _ _, b3.trans (hb2.mono b3.size)⟩
  have hz2 : w.heap.size + 1 + 1 ≤ w2.heap.size := by have := hb2.size; omega
  have hT : ∀ k, k < S.fold.there.length → ∃ b, ∀ W, Below w.heap.size w W → W.cell? ⟨p, 4, none⟩ = (w.cell? ⟨p, 4, none⟩) ∧ (∃ m, w.cell? ⟨p, 4, none⟩ = some (.map (some m)) ∧ (Instr.lookup 74 (.map (some m)) (.int .i64 ((nam S.fold.there k).2 : Nat)) false).run Tryz.prog W = .ok (.pointer (some ⟨b, 0, none⟩)) W) ∧
      Calls Tryz.prog 88 #[.pointer (some ⟨b, 0, none⟩)] W fun e w' => e = .returned (.string (Fld.strO (S.file (nam S.fold.there k).2).R)) ∧ W = w' := fun k hk => by
    obtain ⟨fv, lv, lost, armed, P, d1, hkn⟩ := h.it
    have hm := Fld.nam_mem hk
    obtain ⟨b, hb⟩ := hkn.1.there _ hm
    obtain ⟨k4, _⟩ := d1.cells
    have hx : (nam S.fold.there k).2 ≤ 1000000000 := by
      have h4 : S.fold.n ≤ S.fold.weight := Nat.le_add_left _ _
      have := (d1.files _ b hb).2.2
      omega
    rcases d1.map with ⟨rfl, rfl⟩ | ⟨m, rfl, hmp⟩
    · cases hb
    · exact ⟨b, fun W hW => ⟨hW.cell (p := ⟨p, 4, none⟩) d1.p_mem.2, ⟨m, k4, (hmp.same (hW.block m hmp.lt)).look hx hb⟩, bytes_any ((d1.files _ b hb).1.below hW)⟩⟩
  have HT := Lib.hid hT
  have hshort := h.good.there
  have QT := Lib.hid (fun W (B : Below w.heap.size w W) => (h.below B).it.elim fun fv h2 => h2.elim fun lv h3 => h3.elim fun lost h4 => h4.elim fun armed h5 => h5.elim fun P h6 => h6.1.tells (by omega))
  have hgood := h.good
  have hplt := (h.cellP).elim fun cs hc => (Array.getElem?_eq_some_iff.1 hc).1
  clear h QD b1 b3 hT hb2 o1 o2 hw1
  generalize hb1 : w.heap.size = b1 at i0 hz2 ⊢
  generalize hb3 : b1 + 1 = b3 at i0 hz2 ⊢
  refine wpIn_range_foot h1 (gf := 116) (lb := #[.pointer (some ⟨bd, 0, none⟩)]) rfl (enters_of Tryz.func116 (by kernel_rfl) rfl)
    (there_iter (n - 1) (by omega) (σ := Nat × Value) (fun x => x.1) (filesFoot b3) w2 (s0 := (0, .slice none 0 0)) hgood (by omega) hbd ?nb rfl) (fun _ => rfl) (FilesI S w p b1 b3) (fun _ _ => False)
    (fun x a' W => a' = { tmps := #[.pointer (some ⟨p, 0, none⟩), .pointer (some ⟨b1, 0, none⟩), .slice none 0 0, .pointer (some ⟨b3, 0, none⟩), .string (Fld.strO (nam S.fold.there x.1).1), .int .i64 ((nam S.fold.there x.1).2 : Nat), .pointer (some ⟨p, 0, none⟩), .bool false, .pointer (some ⟨p, 0, none⟩), .func (.func 116) #[] #[.pointer (some ⟨bd, 0, none⟩)], .string (Fld.strO (nam S.fold.there x.1).1), .int .i64 ((nam S.fold.there x.1).2 : Nat), undef, undef, undef, undef, undef, undef, undef, undef, undef, undef, undef, undef, undef], defers := [] })
    ?bi ?bx ?ba ?bm ?f0 ?start ?assign ?body ?done ?stop
  case nb =>
    rintro (e | e)
    · omega
    · cases e
  case bi =>
    intro x W W' row hI hg hr
    refine hI.turned hg (fun e => ?_) (fun e => ?_) (fun g hg' e => ?_) (fun r e => ?_)
    · have := (hr _ e).1; omega
    · exact (hr _ e).2 (.inl rfl)
    · exact (hr _ e).2 (.inr hg')
    · have := (hr _ e).1; omega
  case bx => exact fun c W W' hf _ => hf.elim
  case ba => exact fun x a' W W' row hx _ _ => hx
  case bm => exact fun R x W hI => QT.out W hI.1.below
  case f0 =>
    rintro g (e | e)
    · omega
    · cases e
  case start => exact i0
  case assign =>
    intro l x W hI
    gi_wp2
    exact ⟨⟨rfl, rfl, rfl, Nat.le_refl _, fun _ _ _ => rfl⟩, trivial⟩
  case body =>
    rintro l ⟨k, lv⟩ a' W hnf hft hWz hI rfl
    have hlt : k < S.fold.there.length := by simpa using hnf
    obtain ⟨b, hW⟩ := HT.out k hlt
    obtain ⟨q1, ⟨m, q2, q3⟩, q4⟩ := hW W.drew hI.below.drew
    have k4 : W.cell? ⟨p, 4, none⟩ = some (.map (some m)) := (hW W hI.below).1.trans q2
    have k1 := hI.dbox.cell
    have k3 : W.cell? ⟨b3, 0, none⟩ = some lv := hI.box.cell
    have f3 := hI.box.frozen
    have hb3l := hI.box.lt
    have hsn := filesT_take (S := S) hlt
    obtain ⟨t, ht⟩ : ∃ t, Fld.strO (nam S.fold.there k).1 = t := ⟨_, rfl⟩
    obtain ⟨xn, hx⟩ : ∃ xn, (nam S.fold.there k).2 = xn := ⟨_, rfl⟩
    obtain ⟨y, hy⟩ : ∃ y, Fld.strO (S.file xn).R = y := ⟨_, rfl⟩
    have hfc : fileC ((nam S.fold.there k).1, (S.file (nam S.fold.there k).2).R) = [.string t, .string y] := by
      unfold fileC
      rw [ht, hx, hy]
    rw [hfc] at hsn
    rw [hx] at q3 q4
    rw [hy] at q4
    dsimp only
    rw [ht, hx]
    have hmo : Tryz.prog.follows .mixedOrders = true := by kernel_rfl
    have hn2 : 1 ≤ n - 1 - 1 := by omega
    obtain ⟨i0, hi, hz1', hz2', hz3'⟩ := info_parts iFile
    obtain ⟨ad, c, hlv⟩ := ownsSlice hI.row
    have hlv : lv = .slice ad k c := hlv
    subst hlv
    have HRW := Lib.hid hI.row
    have HI := Lib.hid hI
    have HSN := Lib.hid hsn
    have Q4 := Lib.hid (callsIn_wide (n := n - 1 - 1 - 1) |>.2 q4)
    have hTl : S.fold.there.length ≤ 80000 := Nat.le_trans (Fld.FS.there_length S.fold) hl
    have hb2 : Below W.heap.size W (W.alloc (.cells #[.string t, .string y] 26)).drew := Below.drew ((Below.refl _ W).alloc (Nat.le_refl _) _)
    have hown2 := owns_same (w' := (W.alloc (.cells #[.string t, .string y] 26)).drew) (hI.row.alloc (.cells #[.string t, .string y] 26)) (fun _ _ => rfl)
    have hnews := cells_two_new W (.string t) (.string y) 26
    have hbw := hI.below.size
    have hWz' : b1 ≤ (W.alloc (.cells #[.string t, .string y] 26)).drew.heap.size := Nat.le_trans (by omega) hb2.size
    obtain ⟨v', w3, hrun, hown3, hg3, _, ho3⟩ := run_append_own_at (P := Tryz.prog) (W.alloc (.cells #[.string t, .string y] 26)).drew w.heap.size 22 22 26 i0 (.agg #[.string ⟨#[]⟩, .string ⟨#[]⟩]) 2 32 Tryz.underlying22 hi hz1' hz2' hz3' rfl (by decide) (.slice ad k c) k _ hown2 ⟨W.heap.size, 0, none⟩ 1 1 [.string t, .string y] rfl hnews (by simp [Value.oneCell']) (by unfold maxLen; omega) (by omega) (by omega)
    obtain ⟨ad', c', hv'⟩ := ownsSlice hown3
    subst hv'
    have hnb : ∀ b T x, Boxed W b T x → T ≠ 26 → (Value.slice ad k c).ownBlock ≠ some b := fun b T x hb hT hg => by
      rcases hI.row.2 with ⟨e, h0⟩ | ⟨g', cap, cur, e, hbg, hg', _⟩
      · rw [show Value.slice ad k c = .slice none 0 0 from e] at hg; cases hg
      · rw [show Value.slice ad k c = .slice (some ⟨g', 0, none⟩) _ cap from e] at hg
        cases hg
        exact Fld.two_types hg' hb (fun e => hT e.symm) rfl
    have keep3 : ∀ b T x, Boxed W b T x → T ≠ 26 → Boxed w3 b T x := fun b T x hb hT => (hg3.block b (Nat.lt_of_lt_of_le hb.lt hb2.size) (fun e => hnb b T x hb hT e.symm)).trans (boxed_below hb hb2)
    have x3 := keep3 _ _ _ hI.box (by decide)
    have x1 := keep3 _ _ _ hI.dbox (by decide)
    have kx3 := x3.cell
    have fx3 := x3.frozen
    have X3 := Lib.hid x3
    have X1 := Lib.hid x1
    have HW3 := Lib.hid hown3
    have G3 := Lib.hid hg3
    have O3 := Lib.hid ho3
    have B2 := Lib.hid hb2
    have hfin : roundFoot w2.heap.size (filesFoot b3) (fun s s' : Nat × Value => s'.1 = s.1 + 1) (FilesI S w p b1 b3) (fun _ _ => False) (k, .slice ad k c) W .normal { tmps := #[], defers := [] } (w3.setCell ⟨b3, 0, none⟩ (.slice ad' (k + 1) c')) := by
      have hown : ∀ g, (Value.slice ad k c).ownBlock = some g → g < W.heap.size := fun g hg => (hI.row.lt g hg).2
      have same : ∀ g, g < W.heap.size → (Value.slice ad k c).ownBlock ≠ some g → g ≠ b3 → (w3.setCell ⟨b3, 0, none⟩ (.slice ad' (k + 1) c')).heap[g]? = W.heap[g]? := fun g hg ho h3 => by
        rw [Fld.heap_setCell_ne h3, hg3.block g (Nat.lt_of_lt_of_le hg hb2.size) (fun e => ho e.symm), hb2.block g hg]
      have hsz3 : (w3.setCell ⟨b3, 0, none⟩ (.slice ad' (k + 1) c')).heap.size = w3.heap.size := by simp
      have hz13 : W.heap.size ≤ w3.heap.size := Nat.le_trans hb2.size hg3.size
      have nB : ∀ j, j < 2 → (Value.slice ad k c).ownBlock ≠ some (w2.heap.size + j) := fun j hj e => by
        rcases hft _ (.inr e) with h | h <;> omega
      refine ⟨⟨same _ (by omega) (nB 0 (by omega)) (by omega), same _ (by omega) (nB 1 (by omega)) (by omega)⟩, by rw [hsz3]; exact hz13, fun r cs T fz hr hx => ?_, (k + 1, .slice ad' (k + 1) c'), rfl, fun g hg => ?_, ?_⟩
      · rw [same r (Array.getElem?_eq_some_iff.1 hr).1 (fun e => hx (.inr e)) (fun e => hx (.inl e))]
        exact hr
      · rcases hg with hg | hg
        · exact .inl (.inl hg)
        · rcases ho3 with e | e
          · exact .inl (.inr (e ▸ hg))
          · rw [show (k + 1, Value.slice ad' (k + 1) c').2.ownBlock = _ from e] at hg
            cases hg
            exact .inr hb2.size
      · have hgs : w3.grownBy (w3.setCell ⟨b3, 0, none⟩ (.slice ad' (k + 1) c')) (some b3) := grownBy_setCell' w3 b3 _
        have n3 : ∀ g, (Value.slice ad' (k + 1) c').ownBlock = some g → g ≠ b3 := fun g hg e => by
          subst e
          rcases hown3.2 with ⟨e, h0⟩ | ⟨g', cap, cur, e, hbg, hg', _⟩
          · cases h0
          · rw [show Value.slice ad' (k + 1) c' = .slice (some ⟨g', 0, none⟩) _ cap from e] at hg
            cases hg
            exact Fld.two_types hg' x3 (by decide) rfl
        refine ⟨hlt, x3.set _, (hgs.block b1 x1.lt (fun e => by have := Option.some.inj e; omega)).trans x1, ?_, ?_⟩
        · rw [hsn]
          exact owns_same hown3 fun g hg => hgs.block g (hown3.lt g hg).2 (fun e => n3 g hg (Option.some.inj e))
        · have hwg : Below w.heap.size w w3 := (hI.below.trans (hb2.mono hbw)).grown hg3 (Nat.le_trans hbw hb2.size) (fun r e => (hI.row.lt r e).1)
          exact hwg.grown hgs hwg.size (fun r e => by cases e; omega)
    have HFIN := Lib.hid hfin
    clear hW q1 q2 q4 hy ht hx hfc hI hsn hown2 hnews hnb keep3 x3 x1 hown3 hg3 ho3 hb2 hfin
    gi_wp2
    refine region_inRound (by kernel_rfl) (by kernel_rfl) ?_
    repeat' (first
      | (with_reducible exact AllReadyIn.nil)
      | ((with_reducible (show wpAnyIn _ _ _ _ _ _ _ _ _ _)); first
        | (refine wpAnyIn_done (by decide +kernel) ?_ _)
        | (refine wpAnyIn_take (i := 1) (v := .string t) rfl rfl (by decide +kernel) (by decide +kernel) (by decide +kernel) (fun _ _ _ h => h) ⟨Or.inl ⟨by rfl, by intro w; go_simp⟩, fun _ => rfl⟩ ?_)
        | (refine wpAnyIn_take (i := 6) (v := .int .i64 (xn : Int)) rfl rfl (by decide +kernel) (by decide +kernel) (by decide +kernel) (fun _ _ _ h => h) ⟨Or.inl ⟨by rfl, by intro w; go_simp⟩, fun _ => rfl⟩ ?_)
        | (refine wpAnyIn_take (i := 3) (v := .pointer (some ⟨p, 0, none⟩)) rfl rfl (by decide +kernel) (by decide +kernel) (by decide +kernel) (fun _ _ _ h => h) ⟨Or.inl ⟨by rfl, by intro w; go_simp⟩, fun _ => rfl⟩ ?_)
        | (refine wpAnyIn_take (i := 4) (v := .pointer (some ⟨p, 4, none⟩)) rfl rfl (by decide +kernel) (by decide +kernel) (by decide +kernel) (fun _ _ _ h => h) ⟨Or.inl ⟨by rfl, by intro w; go_simp⟩, fun _ => rfl⟩ ?_)
        | (refine wpAnyIn_take (i := 9) (v := .agg #[.string t, .string y]) rfl rfl (by decide +kernel) (by decide +kernel) (by decide +kernel) (fun _ _ _ h => h) ⟨Or.inl ⟨by rfl, by intro w; go_simp⟩, fun _ => rfl⟩ ?_)
        | (refine wpAnyIn_ready (rs := [0, 2]) (by decide +kernel) (by simp) ?_)
        | (refine wpAnyIn_ready (rs := [0, 5]) (by decide +kernel) (by simp) ?_)
        | (refine wpAnyIn_ready (rs := [0, 7]) (by decide +kernel) (by simp) ?_)
        | (refine wpAnyIn_ready (rs := [0, 8]) (by decide +kernel) (by simp) ?_)
        | (refine wpAnyIn_ready (rs := [0, 10]) (by decide +kernel) (by simp) ?_)
        | (refine wpAnyIn_ready (rs := [0]) (by decide +kernel) (by simp) ?_)
        | (refine wpAnyIn_ready (rs := [2]) (by decide +kernel) (by simp) ?_)
        | (refine wpAnyIn_ready (rs := [5]) (by decide +kernel) (by simp) ?_)
        | (refine wpAnyIn_ready (rs := [7]) (by decide +kernel) (by simp) ?_)
        | (refine wpAnyIn_ready (rs := [8]) (by decide +kernel) (by simp) ?_)
        | (refine wpAnyIn_ready (rs := [10]) (by decide +kernel) (by simp) ?_)
        | (refine wpAnyIn_ready (rs := [11]) (by decide +kernel) (by simp) ?_)
        | (refine wpAnyIn_ready (rs := [12]) (by decide +kernel) (by simp) ?_))
      | ((with_reducible (show AllReadyIn _ _ _ _ _ _ _ _ _ _ (11 :: _))); refine AllReadyIn.cons rfl (fun K hK => ?_) ?_; refine step_append_known (o := _) rfl (.tmp 12) (.tmp 22) 22 rfl (.slice ad k c) (.slice (some ⟨W.heap.size, 0, none⟩) 1 1) _ _ ?_ ?_ hrun (fun _ _ => trivial) ?_; exact rfl; exact rfl; refine hK _ _ ?_; clear hK K)
      | ((with_reducible (show AllReadyIn _ _ _ _ _ _ _ _ _ _ (8 :: _))); refine AllReadyIn.cons rfl (fun K hK => ?_) ?_; go_simp; gi_wp2_with (refine ⟨trivial, ?_⟩; gi_at_call 88; go_loud (refine Q4.out.mono ?_; rintro e w3 ⟨rfl, rfl⟩)); try (refine hK _ _ ?_; clear hK K))
      | ((with_reducible (show AllReadyIn _ _ _ _ _ _ _ _ _ _ (_ :: _))); refine AllReadyIn.cons rfl (fun K hK => ?_) ?_; go_simp; refine hK _ _ ?_; clear hK K)
      | ((with_reducible (show AllReadyIn _ _ _ _ _ _ _ _ _ _ _)); exact AllReadyIn.nil))
    all_goals
      gi_wp2
      exact HFIN.out
  case done =>
    subst hb1
    rintro D ⟨k, lv⟩ W hD hfin hI hK _
    have hk : k = S.fold.there.length := Nat.le_antisymm hI.le hfin
    subst hk
    have k3 : W.cell? ⟨b3, 0, none⟩ = some lv := hI.box.cell
    have hrow : W.ownsRow w.heap.size 26 2 lv S.fold.there.length (filesC (filesT S (S.fold.there.take S.fold.there.length))) := hI.row
    rw [List.take_length] at hrow
    obtain ⟨ad, c, hlv⟩ := ownsSlice hrow
    have hlv : lv = .slice ad S.fold.there.length c := hlv
    subst hlv
    have hbw := hI.below
    have hbz := hbw.size
    clear hI
    gi_wp2
    have hg := grownBy_putObj' W D (.deferred none)
    refine ⟨by simp, .inl ⟨_, _, rfl, run_takeDeferred hK, ?_⟩⟩
    refine ⟨_, results_tmp rfl _ _ _, _, rfl, ?_, hbw.grown hg hbw.size (fun k e => by cases e; omega)⟩
    have hrow' : W.ownsRow w.heap.size 26 2 (.slice ad S.fold.there.length c) (filesT S S.fold.there).length (filesC (filesT S S.fold.there)) := by
      rw [show (filesT S S.fold.there).length = S.fold.there.length from List.length_map ..]
      exact hrow
    refine owns_same hrow' fun g hg' => hg.block g (hrow.lt g hg').2 fun e => ?_
    have e := Option.some.inj e
    subst e
    rcases hrow.2 with ⟨e, h0⟩ | ⟨g', cap, cur, e, hbg, hg2, _⟩
    · rw [e] at hg'; cases hg'
    · rw [e] at hg'
      cases hg'
      rw [hK] at hg2
      cases hg2
  case stop => exact fun D c W hD hX hK => hX.elim

theorem files_up {S : DS} (h : S.down = false) : S.files = filesT S S.fold.there := by unfold DS.files; rw [h]; rfl
theorem files_off {S : DS} (h : S.down = true) : S.files = [] := by unfold DS.files; rw [h]; rfl

set_option maxHeartbeats 2000000 in
set_option maxRecDepth 100000 in
theorem files_down {w : World} {p : Nat} {S : DS} {v : DV} (h : DiskP w p S v) (hd : S.down = true) :
    Calls Tryz.prog 28 #[.pointer (some ⟨p, 0, none⟩)] w fun e w' => e = .returned (.slice none 0 0) ∧ Below w.heap.size w w' := by
  have b1 : Below w.heap.size w (w.alloc (.cells #[.pointer (some ⟨p, 0, none⟩)] 27)) := (Below.refl _ w).alloc (Nat.le_refl _) _
  have QD := Lib.hid (hd ▸ down_any (h.below b1))
  clear h
  go_enter Tryz.func28, Tryz.ntmps28
  go_wp2_with (go_at_call 32; (with_reducible refine QD.out.mono ?_); rintro e w' ⟨rfl, rfl⟩)
  go_ret
  exact ⟨rfl, b1⟩

theorem disk_files {w : World} {p : Nat} {S : DS} {v : DV} (h : DiskP w p S v) (hl : S.fold.weight ≤ 80000) :
    Calls Tryz.prog 28 #[.pointer (some ⟨p, 0, none⟩)] w fun e w' => ∃ r, e = .returned r ∧ w'.ownsRow w.heap.size 26 2 r S.files.length (filesC S.files) ∧ Below w.heap.size w w' := by
  cases hd : S.down with
  | true =>
    rw [files_off hd]
    exact (files_down h hd).mono fun e w' ⟨he, hb⟩ => ⟨_, he, World.ownsRow_nil _ _ _ _, hb⟩
  | false =>
    rw [files_up hd]
    exact callsIn_wide.1 (files_in 6 (Nat.le_refl _) h hd hl)
end Go.Proofs.YtmmoilmfpiclgaaGreat

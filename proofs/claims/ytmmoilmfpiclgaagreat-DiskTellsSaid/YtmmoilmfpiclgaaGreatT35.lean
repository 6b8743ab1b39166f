/-
  The document's disk: the folder's acts made durable. The document's disk: a choice's next number. The document's disk beside blocks of the walk's own. The document's disk: a restart.
-/
import Derived.Test.YtmmoilmfpiclgaaGreatT32
import Derived.Deep.RegionWith
import Derived.Test.YtmmoilmfpiclgaaGreatT28
set_option linter.unusedVariables false
set_option linter.unusedSimpArgs false
namespace Go.Proofs.YtmmoilmfpiclgaaGreat
open Go.RowKit Go.Shelf
open Fld (FS Names FAct actsOn foundN foundB findT withT withoutT GoodN Rising mayB nam nameMax RefS)

theorem drewN {w0 w : World} (h : Below w0.heap.size w0 w) : Below w0.heap.size w0 w.drew := h.trans ⟨rfl, rfl, rfl, Nat.le_refl _, fun _ _ => rfl⟩
theorem syncDir_survive (S : FS) : S.survive (S.A.length : Nat) = S.sync := by
  unfold FS.survive FS.sync FS.there Fld.upTo
  rw [List.take_of_length_le (by omega)]
set_option maxHeartbeats 2000000 in
set_option maxRecDepth 100000 in
theorem refSyncDir_any {w : World} {r : Nat} {S : DS} {M : Nat → Nat → Prop} (hd : RefD w r S M) (hf : S.Fit2) :
    Calls Tryz.prog 62 #[.pointer (some ⟨r, 0, none⟩)] w fun e w' => e = .returned (.int .i64 (((S.syncDir).2 : Nat) : Int)) ∧ WentD w r M (S.syncDir).1 w' := by
  have QS := Lib.hid (refStep_any hd (Nat.le_trans hf.steps (by decide)))
  have hwt : S.stepped.fold.weight ≤ 90000 := Nat.le_trans hf.weight (by decide)
  unfold DS.syncDir DS.doing DS.syncDir0
  obtain ⟨T, hT⟩ : ∃ T, S.stepped = T := ⟨_, rfl⟩
  rw [hT] at QS hwt ⊢
  have HWT := Lib.hid hwt
  have hal : T.fold.A.length ≤ 90000 := Nat.le_trans (Nat.le_trans (Nat.le_add_left _ _) (Nat.le_add_right _ _)) hwt
  clear hwt hT hf hd
  obtain ⟨dn, hdn⟩ : ∃ dn, T.down = dn := ⟨_, rfl⟩
  rw [hdn] at QS ⊢
  cases dn with
  | true =>
    rw [if_pos rfl]
    go_enter Tryz.func62, Tryz.ntmps62
    go_wp2_with (go_at_call 120; go_must (with_reducible refine QS.out.mono ?_); rintro e w1 ⟨rfl, hq⟩; have H1 := Lib.hid hq; clear hq)
    go_ret
    exact ⟨rfl, H1.out⟩
  | false =>
    rw [if_neg Bool.false_ne_true]
    go_enter Tryz.func62, Tryz.ntmps62
    go_upto_region 3 with (go_at_call 120; go_must (with_reducible refine QS.out.mono ?_); rintro e w1 ⟨rfl, M1, k1, k2, k3⟩; obtain ⟨q, fv, P, h1⟩ := k1.it; have c0 := h1.cell.1; have K1 := Lib.hid k1; have K2 := Lib.hid k2; have K3 := Lib.hid k3; have H1 := Lib.hid h1; have CC := Lib.hid (fun W (hW : Below w1.heap.size w1 W) => ((hW.cell (p := ⟨r, 0, none⟩) h1.lt).trans c0 : W.cell? ⟨r, 0, none⟩ = _)); clear k1 k2 k3 h1)
    have QP := Lib.hid (fun (W : World) (hW : Below w1.heap.size w1 W) => (Fld.refS_pending (H1.out.dir.below hW)).mono fun e w' ⟨h1, h2⟩ => (⟨h1, Below.next hW h2⟩ : e = Ending.returned (.int .i64 (T.fold.A.length : Nat)) ∧ Below w1.heap.size w1 w'))
    have QV := Lib.hid (fun (W : World) (hW : Below w1.heap.size w1 W) => (Fld.refS_survive (H1.out.dir.below hW) (T.fold.A.length : Nat) (by omega) (by omega) HWT.out).mono fun e w' ⟨h1, h2⟩ => (⟨h1, hW, by rw [syncDir_survive] at h2; exact h2⟩ : e = Ending.returned (.tuple #[]) ∧ Below w1.heap.size w1 W ∧ Fld.WentR W q (M1 0) T.fold.sync w'))
    go_region_with (first
      | (go_at_call 102; (with_reducible refine (QP.out _ (by repeat (first | with_reducible exact Below.refl _ _ | (with_reducible apply drewN)))).mono ?_); rintro e w2 ⟨rfl, hq⟩; have B2 := Lib.hid hq; have c02 := CC.out _ hq; clear hq)
      | (go_at_call 43; (with_reducible refine (QV.out _ B2.out).mono ?_); rintro e w3 ⟨rfl, hb, hq⟩; have H2 := Lib.hid hq; clear hq hb))
    all_goals
      go_wp2
      go_ret
      have hw := RefD.folder (H1.out.below K1.out.parts B2.out) (K1.out.below B2.out) H2.out rfl (Fld.good_sync K1.out.good)
      rw [hdn] at hw
      exact ⟨rfl, WentD.after K2.out K3.out (WentD.after (M1 := M1) (fun g hg => .inl hg) (Kept.below B2.out) hw)⟩
end Go.Proofs.YtmmoilmfpiclgaaGreat
namespace Go.Proofs.YtmmoilmfpiclgaaGreat
open Go.RowKit Go.Shelf

set_option maxHeartbeats 2000000 in
set_option maxRecDepth 100000 in
theorem refNumber_any {w : World} {l : List Nat} {lv : Value} {b k : Nat} (hr : Row16 w lv l) (hb : w.heap[b]? = some (.cells #[.int .i64 (k : Int)] 3 (0, 0))) (hlv : ∀ g o n c, lv = .slice (some ⟨g, o, none⟩) n c → n ≠ 0 → g ≠ b) (hk : k ≤ 1000000) (hl : l.length ≤ 1000000) :
    Calls Tryz.prog 128 #[lv, .pointer (some ⟨b, 0, none⟩)] w fun e w' => e = .returned (.int .i64 ((num l k : Nat) : Int)) ∧ w' = w.setCell ⟨b, 0, none⟩ (.int .i64 ((k + 1 : Nat) : Int)) := by
  obtain ⟨ad, c, rfl, hc⟩ := hr
  have c0 : w.cell? ⟨b, 0, none⟩ = some (.int .i64 (k : Int)) := by rw [cell_of_row w b 0 _ _ _ hb]; rfl
  have f0 := free_of hb 0
  have hlt : b < w.heap.size := (Array.getElem?_eq_some_iff.1 hb).1
  by_cases h : k < l.length
  · obtain ⟨g, o, rfl, hcell, hle⟩ := hc k h
    have hne := hlv g o l.length c rfl (by omega)
    obtain ⟨x, hx⟩ : ∃ x, l.getD k 0 = x := ⟨_, rfl⟩
    have hnum : num l k = x := hx
    rw [hx] at hcell hle
    rw [hnum]
    have h1 : decide ((l.length : Int) < ((k + 1 : Nat) : Int)) = false := decide_eq_false (by omega)
    have h1' : decide ((l.length : Int) < (k : Int) + 1) = false := decide_eq_false (by omega)
    have h1'' : decide (l.length < k + 1) = false := decide_eq_false (by omega)
    have hcs := fun v => (heap_setCell_ne (w := w) (p := b) (o := 0) (v := v) hne)
    have hcv : ∀ v, (w.setCell ⟨b, 0, none⟩ v).cell? ⟨g, o + k, none⟩ = some (.int .u16 (x : Int)) := fun v => by
      rw [← hcell]
      unfold World.cell?
      simp only [hcs]
    clear hb hc hx hlv hnum hcs hcell
    go_enter Tryz.func128, Tryz.ntmps128
    go_wp2
    go_ret
    exact ⟨rfl, by rw [show ((k : Int) + 1) = ((k + 1 : Nat) : Int) by omega]⟩
  · have h1 : decide ((l.length : Int) < (k : Int) + 1) = true := decide_eq_true (by omega)
    have h1'' : decide (l.length < k + 1) = true := decide_eq_true (by omega)
    have hnum : num l k = 0 := by
      unfold num
      simp [List.getD, List.getElem?_eq_none (show l.length ≤ k by omega)]
    rw [hnum]
    clear hb hc hlv hnum
    go_enter Tryz.func128, Tryz.ntmps128
    go_wp2
    go_ret
    exact ⟨rfl, by rw [show ((k : Int) + 1) = ((k + 1 : Nat) : Int) by omega]⟩
end Go.Proofs.YtmmoilmfpiclgaaGreat
namespace Go.Proofs.YtmmoilmfpiclgaaGreat
open Go.RowKit Go.Shelf
open Fld (FS Names FAct actsOn foundN foundB findT withT withoutT GoodN Rising mayB nam nameMax RefS textsOf)

/-- The disk at a later world, beside blocks of the walk's own. -/
structure RI (w wr : World) (r : Nat) (M : Nat → Nat → Prop) (T : DS) (bs : List (Nat × Obj)) : Prop where
  it : ∃ M', RefD wr r T M' ∧ (∀ g, All M' g → All M g ∨ w.heap.size ≤ g) ∧ ∀ x ∈ bs, wr.heap[x.1]? = some x.2 ∧ ¬ All M' x.1 ∧ w.heap.size ≤ x.1
  kept : Kept (All M) w wr

section
variable {w wr w' : World} {r : Nat} {M : Nat → Nat → Prop} {T : DS} {bs : List (Nat × Obj)}
theorem RefD.all_lt {r : Nat} {S : DS} {M : Nat → Nat → Prop} (h : RefD w r S M) {g : Nat} (hg : All M g) : g < w.heap.size := by
  obtain ⟨k, hk⟩ := hg
  exact h.parts.mem k g (.inl hk)
theorem RI.start (hd : RefD w r T M) : RI w w r M T [] := ⟨⟨M, hd, fun _ h => .inl h, fun x hx => by cases hx⟩, Kept.refl _ _⟩
theorem RI.went (h : RI w wr r M T bs) : WentD w r M T wr := by
  obtain ⟨M', h1, h2, _⟩ := h.it
  exact ⟨M', h1, h2, h.kept⟩
theorem RI.at (h : RI w wr r M T bs) {x : Nat × Obj} (hx : x ∈ bs) : wr.heap[x.1]? = some x.2 := by
  obtain ⟨M', _, _, h3⟩ := h.it
  exact (h3 x hx).1
theorem RI.next (h : RI w wr r M T bs) (hb : Below wr.heap.size wr w') : RI w w' r M T bs := by
  obtain ⟨M', h1, h2, h3⟩ := h.it
  exact ⟨⟨M', h1.below hb, h2, fun x hx => ⟨(hb.block x.1 (Array.getElem?_eq_some_iff.1 (h3 x hx).1).1).trans (h3 x hx).1, (h3 x hx).2⟩⟩, h.kept.trans (Kept.below (M := fun _ => False) hb) fun g hg => hg.elim⟩
theorem RI.less (h : RI w wr r M T bs) {bs' : List (Nat × Obj)} (hs : ∀ x ∈ bs', x ∈ bs) : RI w wr r M T bs' := by
  obtain ⟨M', h1, h2, h3⟩ := h.it
  exact ⟨⟨M', h1, h2, fun x hx => h3 x (hs x hx)⟩, h.kept⟩
/-- New blocks are the walk's own. -/
theorem RI.owns (h : RI w wr r M T bs) (hb : Below wr.heap.size wr w') {bs2 : List (Nat × Obj)} (h2 : ∀ x ∈ bs2, w'.heap[x.1]? = some x.2 ∧ wr.heap.size ≤ x.1) : RI w w' r M T (bs2 ++ bs) := by
  have hn := h.next hb
  obtain ⟨M1, k1, k2, k3⟩ := h.it
  have hks := h.kept.size
  refine ⟨⟨M1, k1.below hb, k2, fun x hx => ?_⟩, hn.kept⟩
  rcases List.mem_append.1 hx with hx | hx
  · refine ⟨(h2 x hx).1, fun hg => ?_, Nat.le_trans hks (h2 x hx).2⟩
    have := k1.all_lt hg
    have := (h2 x hx).2
    omega
  · exact ⟨hn.at hx, (k3 x hx).2⟩
/-- One of the own blocks turns. -/
theorem RI.turn {b : Nat} {o o' : Obj} (h : RI w wr r M T ((b, o) :: bs)) (hg : wr.grownBy w' (some b)) (ho : w'.heap[b]? = some o') (hd : ∀ x ∈ bs, x.1 ≠ b) : RI w w' r M T ((b, o') :: bs) := by
  obtain ⟨M', h1, h2, h3⟩ := h.it
  obtain ⟨q1, q2, q3⟩ := h3 _ (List.mem_cons_self ..)
  have hk : Kept (fun g => g = b) wr w' := Kept.grown hg fun g e => by cases e; rfl
  refine ⟨⟨M', h1.kept hk fun g hm e => q2 (e ▸ hm), h2, fun x hx => ?_⟩, h.kept.trans hk fun g e => .inr (e ▸ q3)⟩
  rcases List.mem_cons.1 hx with rfl | hx
  · exact ⟨ho, q2, q3⟩
  · have h4 := h3 x (List.mem_cons_of_mem _ hx)
    exact ⟨(hg.block x.1 (Array.getElem?_eq_some_iff.1 h4.1).1 fun e => hd x hx (Option.some.inj e)).trans h4.1, h4.2⟩
/-- A method. -/
theorem RI.call (h : RI w wr r M T bs) {f : FuncId} {args : Array Value} {rv : Value} {T' : DS} (hc : ∀ M', RefD wr r T M' → Calls Tryz.prog f args wr fun e w' => e = .returned rv ∧ WentD wr r M' T' w') : Calls Tryz.prog f args wr fun e w' => e = .returned rv ∧ RI w w' r M T' bs := by
  obtain ⟨M', h1, h2, h3⟩ := h.it
  refine (hc M' h1).mono fun e w' ⟨he, hw⟩ => ⟨he, ?_⟩
  obtain ⟨M2, k1, k2, k3⟩ := hw
  have hks := h.kept.size
  refine ⟨⟨M2, k1, fun g hg => ?_, fun x hx => ?_⟩, h.kept.trans k3 h2⟩
  · rcases k2 g hg with k | k
    · exact h2 g k
    · exact .inr (Nat.le_trans hks k)
  · have hl := (Array.getElem?_eq_some_iff.1 (h3 x hx).1).1
    refine ⟨(k3.block x.1 hl (h3 x hx).2.1).trans (h3 x hx).1, fun hg => ?_, (h3 x hx).2.2⟩
    rcases k2 x.1 hg with k | k
    · exact (h3 x hx).2.1 k
    · omega
/-- A look. -/
theorem RI.look (h : RI w wr r M T bs) {f : FuncId} {args : Array Value} {Q : Ending → World → Prop} (hc : ∀ M', RefD wr r T M' → Calls Tryz.prog f args wr fun e w' => Q e w' ∧ Below wr.heap.size wr w') : Calls Tryz.prog f args wr fun e w' => Q e w' ∧ Below wr.heap.size wr w' ∧ RI w w' r M T bs := by
  obtain ⟨M', h1, _, _⟩ := h.it
  exact (hc M' h1).mono fun e w' ⟨he, hw⟩ => ⟨he, hw, h.next hw⟩
end
/-- A row as blocks. -/
theorem row_blocks {w : World} {base n : Nat} {e : TypeId} {v : Value} {xs : List Value} (h : w.ownsRow base e 1 v n xs) : ∃ bs : List (Nat × Obj), (∀ x ∈ bs, w.heap[x.1]? = some x.2 ∧ base ≤ x.1) ∧ ∀ W : World, (∀ x ∈ bs, W.heap[x.1]? = some x.2) → W.ownsRow base e 1 v n xs := by
  cases hv : v.ownBlock with
  | none => exact ⟨[], (fun x hx => by cases hx), fun W _ => owns_same h fun g hg => by rw [hv] at hg; cases hg⟩
  | some g =>
    have hl := h.lt g hv
    refine ⟨[(g, w.heap[g]'hl.2)], fun x hx => ?_, fun W hW => owns_same h fun g' hg => ?_⟩
    · rw [List.mem_singleton] at hx
      subst hx
      exact ⟨Array.getElem?_eq_getElem hl.2, hl.1⟩
    · rw [hv] at hg
      cases hg
      exact (hW _ (List.mem_singleton.2 rfl)).trans (Array.getElem?_eq_getElem hl.2).symm
end Go.Proofs.YtmmoilmfpiclgaaGreat
namespace Go.Proofs.YtmmoilmfpiclgaaGreat
open Go.RowKit Go.Shelf
open Fld (FS Names FAct actsOn foundN foundB findT withT withoutT GoodN Rising mayB nam nameMax RefS textsOf)

/-- The state behind the folder's part and k files. -/
def restD (S : DS) (l : List Nat) (k : Nat) : DS := ⟨S.fold.survive (num l 0), restFile (S.fold.survive (num l 0)).there l S.file k, S.room, S.steps, S.armed, S.down⟩
theorem restD_zero (S : DS) (l : List Nat) : restD S l 0 = { S with fold := S.fold.survive (num l 0) } := rfl
def boxO (j : Nat) : Obj := .cells #[.int .i64 (j : Int)] 3 (0, 0)

/-- The next number: the box turns. -/
theorem RI.number {w wr : World} {r : Nat} {M : Nat → Nat → Prop} {T : DS} {bs : List (Nat × Obj)} {b j : Nat} {l : List Nat} {lv : Value} (h : RI w wr r M T ((b, boxO j) :: bs)) (hd : ∀ x ∈ bs, x.1 ≠ b) (hr : ∀ W, (∀ g, g < w.heap.size → ¬ All M g → W.heap[g]? = w.heap[g]?) → Row16 W lv l) (hlv : ∀ b o n c, lv = .slice (some ⟨b, o, none⟩) n c → n ≠ 0 → ¬ All M b ∧ b < w.heap.size) (hj : j ≤ 1000000) (hl : l.length ≤ 1000000) :
    Calls Tryz.prog 128 #[lv, .pointer (some ⟨b, 0, none⟩)] wr fun e w' => e = .returned (.int .i64 ((num l j : Nat) : Int)) ∧ RI w w' r M T ((b, boxO (j + 1)) :: bs) ∧ ∀ o x, wr.cell? ⟨r, o, none⟩ = some x → w'.cell? ⟨r, o, none⟩ = some x := by
  have hrb : r ≠ b := by
    obtain ⟨M', h1, _, h3⟩ := h.it
    obtain ⟨q, fv, P, hi⟩ := h1.it
    exact fun e => (h3 _ (List.mem_cons_self ..)).2.1 ⟨1, e ▸ hi.own⟩
  have hb := h.at (List.mem_cons_self ..)
  have hwb : w.heap.size ≤ b := by
    obtain ⟨_, _, _, h3⟩ := h.it
    exact (h3 _ (List.mem_cons_self ..)).2.2
  refine (refNumber_any (hr wr fun g hg hm => h.kept.block g hg hm) hb (fun g o n c e e9 hgb => by have := (hlv g o n c e e9).2; omega) hj hl).mono fun e w' ⟨he, hw⟩ => ⟨he, ?_⟩
  subst hw
  refine ⟨h.turn (grown_setCell wr b 0 _) (cells_setCell hb 0 _) hd, fun o x hx => ?_⟩
  rw [← hx]
  unfold World.cell?
  simp only [heap_setCell_ne (w := wr) (p := b) (o := 0) hrb]

theorem RI.after {w wr w' : World} {r : Nat} {M M' : Nat → Nat → Prop} {T' : DS} {bs : List (Nat × Obj)} (h2 : ∀ g, All M' g → All M g ∨ w.heap.size ≤ g) (h3 : ∀ x ∈ bs, wr.heap[x.1]? = some x.2 ∧ ¬ All M' x.1 ∧ w.heap.size ≤ x.1) (hk : Kept (All M) w wr) (hw : WentD wr r M' T' w') : RI w w' r M T' bs := by
  obtain ⟨M2, k1, k2, k3⟩ := hw
  have hks := hk.size
  refine ⟨⟨M2, k1, fun g hg => ?_, fun x hx => ?_⟩, hk.trans k3 h2⟩
  · rcases k2 g hg with k | k
    · exact h2 g k
    · exact .inr (Nat.le_trans hks k)
  · have hl := (Array.getElem?_eq_some_iff.1 (h3 x hx).1).1
    refine ⟨(k3.block x.1 hl (h3 x hx).2.1).trans (h3 x hx).1, fun hg => ?_, (h3 x hx).2.2⟩
    rcases k2 x.1 hg with k | k
    · exact (h3 x hx).2.1 k
    · omega
/-- A file that is there, and what stays of it. -/
theorem RI.file {w wr : World} {r : Nat} {M : Nat → Nat → Prop} {T : DS} {bs : List (Nat × Obj)} (h : RI w wr r M T bs) (s : ByteArray) (hn5 : T.fold.n ≤ 100000) (hfb : foundB T.fold.there s.data.toList = true) :
    Calls Tryz.prog 121 #[.pointer (some ⟨r, 0, none⟩), .string s] wr fun e w' => ∃ p, e = .returned (.pointer (some ⟨p, 0, none⟩)) ∧ Below wr.heap.size wr w' ∧ ∀ W2, Below w'.heap.size w' W2 → ∀ d q : Nat, d ≤ 65535 → q ≤ 65535 →
      Calls Tryz.prog 130 #[.pointer (some ⟨p, 0, none⟩), .agg #[.int .i64 (d : Int), .int .i64 (q : Int)]] W2 fun e w2 => e = .returned (.tuple #[]) ∧ RI w w2 r M { T with file := upd T.file (foundN T.fold.there s.data.toList) ((T.file (foundN T.fold.there s.data.toList)).stay d q) } bs := by
  obtain ⟨M', h1, h2, h3⟩ := h.it
  obtain ⟨q0, fv, P, hi⟩ := h1.it
  obtain ⟨f1, f2⟩ := found_in h1.good hfb
  refine (refFile_any hi h1 s hn5).mono fun e w' ⟨he, hb⟩ => ?_
  rw [if_pos hfb] at he
  refine ⟨_, he, hb, fun W2 hW2 d q hd hq => ?_⟩
  have hb2 := Below.next hb hW2
  have hi2 := hi.below h1.parts hb2
  refine (ref_stay (hi2.files _ f1 f2) (by omega) (by omega) (by omega) (by omega)).mono fun e w2 ⟨he2, hw⟩ => ⟨he2, ?_⟩
  exact RI.after h2 (fun x hx => ⟨(hb2.block x.1 (Array.getElem?_eq_some_iff.1 (h3 x hx).1).1).trans (h3 x hx).1, (h3 x hx).2⟩) (h.next hb2).kept (RefD.part hi2 (h1.below hb2) ((T.file (foundN T.fold.there s.data.toList)).stay d q) hw)

set_option maxHeartbeats 4000000 in
set_option maxRecDepth 100000 in
theorem refRestart_any {w : World} {r : Nat} {S : DS} {M : Nat → Nat → Prop} {l : List Nat} {lv : Value} (hd : RefD w r S M) (hr : ∀ W, (∀ g, g < w.heap.size → ¬ All M g → W.heap[g]? = w.heap[g]?) → Row16 W lv l) (hll : l.length ≤ 1000000) (hlv : ∀ b o n c, lv = .slice (some ⟨b, o, none⟩) n c → n ≠ 0 → ¬ All M b ∧ b < w.heap.size) (hf : S.Fit2) (h16 : ∀ i, num l i ≤ 65535) :
    Calls Tryz.prog 68 #[.pointer (some ⟨r, 0, none⟩), lv] w fun e w' => e = .returned (.tuple #[]) ∧ WentD w r M (S.restart l) w' := by
  have hwt : S.fold.weight ≤ 90000 := Nat.le_trans hf.weight (by decide)
  have h0 := (RI.start hd).owns (bs2 := [(w.heap.size, boxO 0)]) ((Below.refl _ w).alloc (Nat.le_refl _) (boxO 0)) (fun x hx => by
    rw [List.mem_singleton] at hx; subst hx; exact ⟨heap_alloc_new w _, Nat.le_refl _⟩)
  have QN := Lib.hid (fun (W : World) (T : DS) (j : Nat) (bs : List (Nat × Obj)) (h : RI w W r M T ((w.heap.size, boxO j) :: bs)) (hx : ∀ x ∈ bs, x.1 ≠ w.heap.size) (hj : j ≤ 1000000) => h.number hx hr hlv hj hll)
  have QS := Lib.hid (fun (W : World) (bs : List (Nat × Obj)) (h : RI w W r M S bs) (q : Nat) (hq : W.cell? ⟨r, 0, none⟩ = some (.pointer (some ⟨q, 0, none⟩))) => h.call (f := 43) (args := #[.pointer (some ⟨q, 0, none⟩), .int .i64 ((num l 0 : Nat) : Int)]) (rv := .tuple #[]) (T' := restD S l 0) (fun M' hd' => by
    obtain ⟨q', fv, P, hi⟩ := hd'.it
    have hqq := hi.cell.1
    rw [hq] at hqq
    injection hqq with hqq
    injection hqq with hqq
    injection hqq with hqq
    injection hqq with hqq
    subst hqq
    exact (Fld.refS_survive hi.dir (num l 0 : Nat) (by omega) (by have := h16 0; omega) hwt).mono fun e w' ⟨he, hw⟩ => ⟨he, RefD.folder hi hd' hw rfl (Fld.good_survive hd'.good _)⟩))
  have H0 := Lib.hid h0
  have HQ := Lib.hid (fun (W : World) (T : DS) (bs : List (Nat × Obj)) (h : RI w W r M T bs) => (by
    obtain ⟨M', h1, _, _⟩ := h.it
    obtain ⟨q', fv, P, hi⟩ := h1.it
    exact ⟨q', hi.cell.1⟩ : ∃ q, W.cell? ⟨r, 0, none⟩ = some (.pointer (some ⟨q, 0, none⟩))))
  have QM := Lib.hid (fun (W : World) (bs : List (Nat × Obj)) (h : RI w W r M (restD S l 0) bs) (q : Nat) (hq : W.cell? ⟨r, 0, none⟩ = some (.pointer (some ⟨q, 0, none⟩))) => (by
    obtain ⟨M', h1, _, _⟩ := h.it
    obtain ⟨q', fv, P, hi⟩ := h1.it
    have hqq := hi.cell.1
    rw [hq] at hqq
    injection hqq with hqq
    injection hqq with hqq
    injection hqq with hqq
    injection hqq with hqq
    subst hqq
    exact Fld.refS_names hi.dir : Calls Tryz.prog 129 #[.pointer (some ⟨q, 0, none⟩)] W fun e w' => ∃ v, e = .returned v ∧ w'.ownsRow W.heap.size 9 1 v (restD S l 0).fold.there.length ((textsOf (restD S l 0).fold.there).map Value.string) ∧ Below W.heap.size W w'))
  obtain ⟨q, hq⟩ := HQ.out _ _ _ H0.out
  have hW0 : w.alloc (boxO 0) = w.alloc (.cells #[.int .i64 0] 3) := rfl
  rw [hW0] at H0 hq
  have QN1 := Lib.hid (fun (W : World) (hW : Below (w.alloc (.cells #[.int .i64 0] 3)).heap.size (w.alloc (.cells #[.int .i64 0] 3)) W) => QN.out W S 0 [] (H0.out.next hW) (fun x hx => by cases hx) (Nat.zero_le _))
  have HQ1 := Lib.hid (fun (W : World) (hW : Below (w.alloc (.cells #[.int .i64 0] 3)).heap.size (w.alloc (.cells #[.int .i64 0] 3)) W) => (hW.cell (p := ⟨r, 0, none⟩) (block_lt_of_cell hq)).trans hq)
  obtain ⟨n, hn⟩ : ∃ n, (restD S l 0).fold.there.length = n := ⟨_, rfl⟩
  rw [hn] at QM
  obtain ⟨b, hbw⟩ : ∃ b, w.heap.size = b := ⟨_, rfl⟩
  rw [hbw] at QN QN1 H0
  have HBW := Lib.hid hbw
  have HF := Lib.hid hf
  have H16 := Lib.hid h16
  obtain ⟨lad, lc, rfl, -⟩ := hr w fun _ _ _ => rfl
  clear hwt h0 hd hr hlv hf h16 hW0 hbw
  go_enter Tryz.func68, Tryz.ntmps68
  go_upto_region 1 with fail
  rw [HBW.out]
  go_region_with (first
    | (go_at_call 128; (with_reducible refine (QN1.out _ (by repeat (first | with_reducible exact Below.refl _ _ | (with_reducible apply drewN)))).mono ?_); rintro e w2 ⟨rfl, hq2, hc2⟩; have H2 := Lib.hid hq2; have c02 := hc2 0 _ (HQ1.out _ (by repeat (first | with_reducible exact Below.refl _ _ | (with_reducible apply drewN)))); clear hq2 hc2)
    | (go_at_call 43; (with_reducible refine (QS.out _ _ H2.out _ c02).mono ?_); rintro e w3 ⟨rfl, hq3⟩; have H3 := Lib.hid hq3; clear hq3))
  all_goals
    obtain ⟨q3, c03⟩ := HQ.out _ _ _ H3.out
    go_wp2_with (go_at_call 129; go_must (with_reducible refine (QM.out _ _ H3.out _ c03).mono ?_); rintro e w4 ⟨v, rfl, ho4, hb4⟩; have HO4 := Lib.hid ho4; have B4 := Lib.hid hb4; obtain ⟨nad, nc, rfl⟩ := row_form ho4; clear ho4 hb4)
    obtain ⟨bs2, hbs, hrow⟩ := row_blocks HO4.out
    have hbl : b < w3.heap.size := (Array.getElem?_eq_some_iff.1 (H3.out.at (x := (b, boxO 1)) (by simp))).1
    have hnb : ∀ x ∈ bs2, x.1 ≠ b := fun x hx => by have := (hbs x hx).2; omega
    have H4 := Lib.hid ((H3.out.owns B4.out hbs).less (bs' := (b, boxO 1) :: bs2) (fun x hx => by
      rcases List.mem_cons.1 hx with rfl | hx
      · exact List.mem_append_right _ (by simp)
      · exact List.mem_append_left _ hx))
    have HROWS := Lib.hid hrow
    have HNB := Lib.hid hnb
    clear hrow hbs hbl hnb HO4 B4 H3 c03 c02
    go_loopw [6, 7, 8] (fun s6 _ _ wr => ∃ k : Nat, k ≤ n ∧ s6 = .int .i64 k ∧ RI w wr r M (restD S l k) ((b, boxO (2 * k + 1)) :: bs2)) (fun s6 _ _ _ => n - (intOf s6).toNat)
    case atStart => exact ⟨0, Nat.zero_le _, rfl, H4.out⟩
    case round =>
      obtain ⟨k, hk, rfl, hri⟩ := hrel
      have HRI := Lib.hid hri
      clear hri H4
      by_cases hkn : k < n
      · have e1 : decide ((k : Int) < (n : Int)) = true := decide_eq_true (by omega)
        have e1' : decide (k < n) = true := decide_eq_true hkn
        have hrow := HROWS.out wr (fun x hx => HRI.out.at (List.mem_cons_of_mem _ hx))
        obtain ⟨g, c2, hv, -, -, hgl, hcell⟩ := row_at hrow (by omega)
        cases hv
        have hnl : (nam (restD S l 0).fold.there k, k) = (nam (restD S l 0).fold.there k, k) := rfl
        have kc := hcell k hkn (.string (Fld.strO (nam (restD S l 0).fold.there k).1)) (by
          rw [List.getElem?_map, Fld.textsOf, List.getElem?_map, List.getElem?_eq_getElem (by omega), Fld.nam_lt (by omega)]; rfl)
        have HKC := Lib.hid (fun (W : World) (hW : ∀ x ∈ bs2, W.heap[x.1]? = some x.2) => (by
          obtain ⟨g', c', hv', -, -, -, hc'⟩ := row_at (HROWS.out W hW) (by omega)
          cases hv'
          exact hc' k hkn _ (by
            rw [List.getElem?_map, Fld.textsOf, List.getElem?_map, List.getElem?_eq_getElem (by omega), Fld.nam_lt (by omega)]; rfl) : W.cell? ⟨g, k, none⟩ = some (.string (Fld.strO (nam (restD S l 0).fold.there k).1))))
        obtain ⟨NM, hNM⟩ : ∃ NM, nam (restD S l 0).fold.there k = NM := ⟨_, rfl⟩
        have hfound : foundB (restD S l k).fold.there (Fld.strO NM.1).data.toList = true ∧ foundN (restD S l k).fold.there (Fld.strO NM.1).data.toList = NM.2 := by
          rw [Fld.strO_data]
          obtain ⟨M', h1, _, _⟩ := HRI.out.it
          refine found_mem h1.good.there.rising ?_
          rw [← hNM, Fld.nam_lt (by show k < (restD S l 0).fold.there.length; omega)]
          exact List.getElem_mem _
        rw [hNM] at HKC
        have hn5 : (restD S l k).fold.n ≤ 100000 := HF.out.n
        have QF := Lib.hid (fun (W : World) (j : Nat) (h : RI w W r M (restD S l k) ((b, boxO j) :: bs2)) => (by
          refine (h.file (Fld.strO NM.1) hn5 hfound.1).mono fun e w' ⟨p, he, hb, hst⟩ => ⟨p, he, hb, fun W2 hW2 d x hd hx => ?_⟩
          have := hst W2 hW2 d x hd hx
          rw [hfound.2] at this
          exact this : Calls Tryz.prog 121 #[.pointer (some ⟨r, 0, none⟩), .string (Fld.strO NM.1)] W fun e w' => ∃ p, e = .returned (.pointer (some ⟨p, 0, none⟩)) ∧ Below W.heap.size W w' ∧ ∀ W2, Below w'.heap.size w' W2 → ∀ d x : Nat, d ≤ 65535 → x ≤ 65535 →
            Calls Tryz.prog 130 #[.pointer (some ⟨p, 0, none⟩), .agg #[.int .i64 (d : Int), .int .i64 (x : Int)]] W2 fun e w2 => e = .returned (.tuple #[]) ∧ RI w w2 r M { restD S l k with file := upd (restD S l k).file NM.2 (((restD S l k).file NM.2).stay d x) } ((b, boxO j) :: bs2)))
        have hk9 : n ≤ 90000 := by
          have h1 := HF.out.weight
          have h2 : (restD S l 0).fold.there.length ≤ (S.fold.survive (num l 0)).weight := Fld.FS.there_length (S.fold.survive (num l 0))
          have h3 := Fld.weight_survive S.fold (num l 0)
          omega
        have hm1 : num l (2 * k + 1) ≤ 65535 := H16.out _
        have hm2 : num l (2 * k + 2) ≤ 65535 := H16.out _
        clear hrow hcell hfound hn5 kc hnl
        go_wp2_with (first
          | (go_at_call 128; first
            | ((with_reducible refine (QN.out _ _ _ _ HRI.out HNB.out (by omega)).mono ?_); rintro e w5 ⟨rfl, hq5, -⟩; have H5 := Lib.hid hq5; clear hq5; clear HRI)
            | ((with_reducible refine (QN.out _ _ _ _ H5.out HNB.out (by omega)).mono ?_); rintro e w6 ⟨rfl, hq6, -⟩; have H6 := Lib.hid hq6; have kc6 := HKC.out _ (fun x hx => hq6.at (List.mem_cons_of_mem _ hx)); clear hq6))
          | (go_at_call 121; go_must (with_reducible refine (QF.out _ _ H6.out).mono ?_); rintro e w7 ⟨p, rfl, hb7, hst⟩; have HST := Lib.hid (hst w7 (Below.refl _ _) _ _ hm1 hm2); clear hst)
          | (go_at_call 130; go_must (with_reducible refine HST.out.mono ?_); rintro e w8 ⟨rfl, hq8⟩; have H8 := Lib.hid hq8; clear hq8))
        refine ⟨⟨k + 1, by omega, by go_num, ?_⟩, by simp [intOf]; omega⟩
        have h8 := H8.out
        have e9 : restD S l (k + 1) = { restD S l k with file := upd (restD S l k).file NM.2 (((restD S l k).file NM.2).stay (num l (2 * k + 1)) (num l (2 * k + 2))) } := by
          rw [← hNM]; rfl
        rw [e9]
        exact h8
      · obtain rfl : k = n := by omega
        have e1 : decide ((k : Int) < (k : Int)) = false := by simp
        obtain ⟨M9, h9, h9n, -⟩ := HRI.out.it
        obtain ⟨q9, fv9, P9, hi9⟩ := h9.it
        have hz4 := free_of hi9.blk 4
        have hz5 := free_of hi9.blk 5
        have hl9 := hi9.lt
        have c54 := hi9.cell.2.2.2.2.1
        have c55 := hi9.cell.2.2.2.2.2.1
        have H9 := Lib.hid h9
        have HI9 := Lib.hid hi9
        have HN9 := Lib.hid h9n
        clear h9 hi9 h9n
        go_wp2
        have hw9 : WentD wr r M9 (S.restart l) ((wr.setCell ⟨r, 5, none⟩ (.bool false)).setCell ⟨r, 4, none⟩ (.int .i64 0)) := by
          have := RefD.turn (S' := S.restart l) HI9.out H9.out (grownBy_trans (grown_setCell wr r 5 (.bool false)) (grown_setCell _ r 4 (.int .i64 0))) (cells_setCell (cells_setCell HI9.out.blk 5 _) 4 _) rfl (by rw [← hn]; rfl) rfl (Nat.zero_le _)
          exact this
        exact bodyPost_end (v := .tuple #[]) (by simp [results, Tryz.results68, go_sem]) rfl ⟨rfl, WentD.after HN9.out HRI.out.kept hw9⟩
end Go.Proofs.YtmmoilmfpiclgaaGreat

/-
  Restart of a disk in memory.
-/
import Derived.Test.YtmmoilmfpiclgaaGreatT28
set_option linter.unusedVariables false
set_option linter.unusedSimpArgs false
namespace Go.Proofs.YtmmoilmfpiclgaaGreat
open Go.RowKit Go.Shelf
open Fld (FS Names FAct actsOn foundN foundB findT withT withoutT GoodN Rising mayB nam nameMax FolderS FolderIn ARow textsOf)
attribute [local go_sem] Oper.semAt_some
attribute [local instance] Fld.alone

theorem nil_disk_eq (w : World) (p : Nat) : (binOp .eql 27 (.pointer (some ⟨p, 0, none⟩)) (.pointer none)).run Tryz.prog w = .ok (.bool false) w := by kernel_rfl

theorem fold_survive {w : World} {p u : Nat} {S : DS} {v : DV} {fv lv : Value} {lost : List Nat} {armed : Nat} {P : Nat → Option Nat} (h : DiskIn w p S u v fv lv lost armed P) (hp : Parts w v.M v.I) (k : Int) (hk : -1000000 ≤ k ∧ k ≤ 1000000) (hl : S.fold.weight ≤ 90000) :
    Calls Tryz.prog 56 #[.pointer (some ⟨p, 0, none⟩), .int .i64 k] w fun e w' => e = .returned (.tuple #[]) ∧
      ∃ v', DiskIn w' p { S with fold := S.fold.survive k } u v' fv lv lost armed P ∧ Parts w' v'.M v'.I ∧ v.To w w' v' ∧ ∀ l, l ≠ 0 → v'.M l = v.M l ∧ v'.I l = v.I l := by
  refine (@Fld.survive_any (fin _) _ _ _ _ _ _ _ h.fold k hk hl).mono ?_
  rintro e w' ⟨rfl, h2⟩
  obtain ⟨v', k1, k2, k3, k4⟩ := h.folded hp h2 (Nat.le_refl _)
  exact ⟨rfl, v', k1, k2, k3, k4⟩

theorem num_next {ba bl a : Nat} {W : World} {lv : Value} {l : List Nat} (hl : Boxed W bl 33 lv) (ha : Boxed W ba 3 (.int .i64 ((min a l.length : Nat) : Int))) (hn : Row16 W lv l) (hll : l.length ≤ 1000000) (hne : ∀ b o n c, lv = .slice (some ⟨b, o, none⟩) n c → n ≠ 0 → b ≠ ba) :
    Calls Tryz.prog 115 #[.pointer (some ⟨ba, 0, none⟩), .pointer (some ⟨bl, 0, none⟩)] W fun e w' => e = .returned (.int .i64 ((num l a : Nat) : Int)) ∧ Boxed w' ba 3 (.int .i64 ((min (a + 1) l.length : Nat) : Int)) ∧ W.grownBy w' (some ba) := by
  have e1 : num l (min a l.length) = num l a := by
    unfold num
    by_cases h : a ≤ l.length
    · rw [Nat.min_eq_left h]
    · rw [Nat.min_eq_right (by omega)]
      simp [List.getD, (by omega : l.length ≤ a)]
  have e2 : min (min a l.length + 1) l.length = min (a + 1) l.length := by omega
  refine (next_any ha hl hn (by omega) (by omega) (fun ad n c b o e1 e2 e3 => hne b o n c (by rw [e1, e2]) e3)).mono ?_
  rw [e1, e2]
  exact fun e w' h => h

/-- Only the plain end counts. -/
def Norm (R : Act → World → Prop) : Exit → Act → World → Prop
  | .normal, a, w => R a w
  | _, _, _ => False
theorem region_norm {F : Fence} {n : Nat} {P : Program} {code : Code} {K : Act → World → Prop} {Q : Exit → Act → World → Prop} {a : Act} {w : World} (R : Act → World → Prop) (h : code.wpIn F n P (Norm R) a w) (hK : ∀ a w, R a w → K a w) : code.wpIn F n P (Exit.then K Q) a w :=
  wpIn_mono h fun e a w hr => by
    cases e with
    | normal => exact hK a w hr
    | _ => exact hr.elim

theorem region_plain {F : Fence} {n : Nat} {P : Program} {code : Code} {Q : Exit → Act → World → Prop} {a : Act} {w : World} (R : Act → World → Prop) (h : code.wpIn F n P (Norm R) a w) (hQ : ∀ a w, R a w → Q .normal a w) : code.wpIn F n P Q a w :=
  wpIn_mono h fun e a w hr => by
    cases e with
    | normal => exact hQ a w hr
    | _ => exact hr.elim

/-- Behind the folder's survival: the disk with that folder, the boxes. -/
structure Ahead (w : World) (p : Nat) (S : DS) (v : DV) (l : List Nat) (lv fv lv0 : Value) (lost : List Nat) (armed : Nat) (P : Nat → Option Nat) (b2 ba bl b4 : Nat) (v3 : DV) (W : World) : Prop where
  disk : DiskIn W p { S with fold := S.fold.survive ((num l 0 : Nat) : Int) } S.used v3 fv lv0 lost armed P
  parts : Parts W v3.M v3.I
  tos : v.To w W v3
  else_ : ∀ l, l ≠ 0 → v3.M l = v.M l ∧ v3.I l = v.I l
  dbox : Boxed W b2 27 (.pointer (some ⟨p, 0, none⟩))
  abox : Boxed W ba 3 (.int .i64 ((min 1 l.length : Nat) : Int))
  lbox : Boxed W bl 33 lv
  rbox : Boxed W b4 100 (.func (.func 115) #[] #[.pointer (some ⟨ba, 0, none⟩), .pointer (some ⟨bl, 0, none⟩)])
  off : ∀ g, (g = b2 ∨ g = ba ∨ g = bl ∨ g = b4) → (¬ All v3.M g ∧ ¬ All v3.I g) ∧ w.heap.size ≤ g
theorem ahead_of {w WD W2 W3 : World} {p : Nat} {S : DS} {v v3 : DV} {l : List Nat} {lv fv lv0 : Value} {lost : List Nat} {armed : Nat} {P : Nat → Option Nat} {b2 ba bl b4 : Nat} (h : DiskP w p S v) (h0 : DiskIn w p S S.used v fv lv0 lost armed P) (bD : Below w.heap.size w WD) (g2 : WD.grownBy W2 (some ba)) (hba : w.heap.size ≤ ba)
    (x2 : Boxed WD b2 27 (.pointer (some ⟨p, 0, none⟩))) (xl : Boxed WD bl 33 lv) (x4 : Boxed WD b4 100 (.func (.func 115) #[] #[.pointer (some ⟨ba, 0, none⟩), .pointer (some ⟨bl, 0, none⟩)])) (xa : Boxed W2 ba 3 (.int .i64 ((min 1 l.length : Nat) : Int))) (xaD : ∃ y, Boxed WD ba 3 y)
    (h2 : w.heap.size ≤ b2) (hl : w.heap.size ≤ bl) (h4 : w.heap.size ≤ b4) (d3 : DiskIn W3 p { S with fold := S.fold.survive ((num l 0 : Nat) : Int) } S.used v3 fv lv0 lost armed P) (p3 : Parts W3 v3.M v3.I) (t3 : v.To W2 W3 v3) (o3 : ∀ l, l ≠ 0 → v3.M l = v.M l ∧ v3.I l = v.I l) : Ahead w p S v l lv fv lv0 lost armed P b2 ba bl b4 v3 W3 := by
  have hr := fun b hb => h.rowLt (b := b) hb
  obtain ⟨y, xaD⟩ := xaD
  have no : ∀ g, w.heap.size ≤ g → ¬ All v.M g := fun g hg ⟨k, hk⟩ => by have := h.parts.mem k g (.inl hk); omega
  have bx : ∀ {b' : Nat} {T : TypeId} {x : Value}, Boxed W2 b' T x → w.heap.size ≤ b' → Boxed W3 b' T x := fun {b' T x} hb hge => (t3.kept.block b' hb.lt (no b' hge)).trans hb
  refine ⟨d3, p3, (((h0.below h.parts bD).2.2.still hr g2 (fun r e => by cases e; exact hba)).trans hr t3), o3, bx (x2.kept g2 fun e => Fld.two_types x2 xaD (by decide) (Option.some.inj e)) h2, bx xa hba, bx (xl.kept g2 fun e => Fld.two_types xl xaD (by decide) (Option.some.inj e)) hl, bx (x4.kept g2 fun e => Fld.two_types x4 xaD (by decide) (Option.some.inj e)) h4, fun g hg => ?_⟩
  have hge : w.heap.size ≤ g ∧ g < W2.heap.size := by
    have z := g2.size
    have l2 := x2.lt
    have ll := xl.lt
    have l4 := x4.lt
    have la := xa.lt
    rcases hg with rfl | rfl | rfl | rfl <;> exact ⟨by omega, by omega⟩
  refine ⟨⟨fun hm => ?_, fun hm => ?_⟩, hge.1⟩
  · rcases t3.m g hm with hm | hm
    · exact no g hge.1 hm
    · omega
  · rcases t3.i g hm with ⟨k, hk⟩ | hm
    · have := h.parts.mem k g (.inr hk); omega
    · omega

/-- The disk is laid anew: no map, no lost ones, nothing used. -/
theorem reset_disk {w W3 : World} {p : Nat} {S : DS} {v v3 : DV} {l : List Nat} {lv lv0 : Value} {mo : Option Nat} {lost : List Nat} {armed : Nat} {P : Nat → Option Nat} {b2 ba bl b4 : Nat} (h : DiskP w p S v) (HA : Ahead w p S v l lv (.map mo) lv0 lost armed P b2 ba bl b4 v3 W3) (hw3 : w.heap.size ≤ W3.heap.size) :
    ∃ v5, RestI w p S (S.fold.survive ((num l 0 : Nat) : Int)) v l lv (.map mo) P armed b2 ba bl b4 W3.heap.size (0, v5, .map none) ((((W3.alloc (.cells #[.map mo] 74)).setCell ⟨p, 4, none⟩ (.map none)).setCell ⟨p, 5, none⟩ (.slice none 0 0)).setCell ⟨p, 7, none⟩ (.int .i64 0)).drew := by
  have hr := fun b hb => h.rowLt (b := b) hb
  obtain ⟨S1, hS1⟩ : ∃ S1 : DS, { S with fold := S.fold.survive ((num l 0 : Nat) : Int) } = S1 := ⟨_, rfl⟩
  have bB : Below W3.heap.size W3 (W3.alloc (.cells #[.map mo] 74)) := (Below.refl _ W3).alloc (Nat.le_refl _) _
  have x5 : Boxed (W3.alloc (.cells #[.map mo] 74)) W3.heap.size 74 (.map mo) := World.alloc_heap_new W3 _
  obtain ⟨wB, hwB⟩ : ∃ wB, W3.alloc (.cells #[.map mo] 74) = wB := ⟨_, rfl⟩
  have hzB : wB.heap.size = W3.heap.size + 1 := by rw [← hwB]; simp
  rw [hwB] at bB x5 ⊢
  have hd := HA.disk
  rw [hS1] at hd
  obtain ⟨a1, a2, a3⟩ := hd.below HA.parts bB
  obtain ⟨b1, b2', b3⟩ := a1.cell (S' := S1) a2 0 (.map none) (fv' := .map none) (lv' := lv0) (lost' := lost) (P' := fun _ => none) (armed' := armed) (u' := S.used) rfl rfl rfl a1.arm a1.armLe (.inl ⟨rfl, rfl⟩) (fun b hb => by cases hb) a1.row a1.rowM (fun x c hx => by cases hx)
  obtain ⟨c1, c2, c3⟩ := b1.cell (S' := S1) b2' 1 (.slice none 0 0) (fv' := .map none) (lv' := .slice none 0 0) (lost' := []) (P' := fun _ => none) (armed' := armed) (u' := S.used) rfl rfl rfl b1.arm b1.armLe (.inl ⟨rfl, rfl⟩) (fun b hb => by cases hb) (World.ownsRow_nil _ _ _ _) (fun b hb => by cases hb) (fun x c hx => by cases hx)
  obtain ⟨d1, d2, d3⟩ := c1.number (S' := S1) c2 3 (.int .i64 0) (armed' := armed) (u' := 0) rfl rfl rfl c1.arm c1.armLe
  obtain ⟨e1, e2, e3⟩ := d1.below d2 (drewB _)
  obtain ⟨v5, f1, f2, f3, f4, f5, f6⟩ := e1.born e2 1 (by omega) (fun _ => rfl) (fun e => by omega) (fun x e => by omega) (Below.refl _ _) (M' := fun _ => False) (I' := fun _ => False) (fun g hg => hg.elim) (fun g hg => hg.elim) (fun g hg => hg.elim id id |>.elim) (fun g hg => hg.elim)
  have hrB : ∀ b, v3.av.ownBlock = some b → b < W3.heap.size := hd.rowLt
  have t5 : v3.To W3 _ v5 := ((((a3.trans hrB b3).trans hrB c3).trans hrB d3).trans hrB e3).trans hrB f3
  have hp := HA.parts
  have hnp : ∀ k g, k ≠ 0 → v3.M k g ∨ v3.I k g → g ≠ p := fun k g hk hg e => by
    subst e
    rcases hg with hg | hg
    · exact hp.apart k 0 g hk hg hd.p_mem.1
    · exact hp.read k 0 g hg hd.p_mem.1
  have same : ∀ g, g < W3.heap.size → g ≠ p → ((((wB.setCell ⟨p, 4, none⟩ (.map none)).setCell ⟨p, 5, none⟩ (.slice none 0 0)).setCell ⟨p, 7, none⟩ (.int .i64 0)).drew).heap[g]? = W3.heap[g]? := fun g hlt hne => by
    show (((wB.setCell ⟨p, 4, none⟩ (.map none)).setCell ⟨p, 5, none⟩ (.slice none 0 0)).setCell ⟨p, 7, none⟩ (.int .i64 0)).heap[g]? = _
    rw [Fld.heap_setCell_ne hne, Fld.heap_setCell_ne hne, Fld.heap_setCell_ne hne]
    exact bB.block g hlt
  have hz5 : ((((wB.setCell ⟨p, 4, none⟩ (.map none)).setCell ⟨p, 5, none⟩ (.slice none 0 0)).setCell ⟨p, 7, none⟩ (.int .i64 0)).drew).heap.size = wB.heap.size := by
    show (((wB.setCell ⟨p, 4, none⟩ (.map none)).setCell ⟨p, 5, none⟩ (.slice none 0 0)).setCell ⟨p, 7, none⟩ (.int .i64 0)).heap.size = _
    simp
  have npb : ∀ g, w.heap.size ≤ g → g ≠ p := fun g hg e => by
    obtain ⟨cs, hc⟩ := h.cellP
    have := (Array.getElem?_eq_some_iff.1 hc).1
    omega
  have bx : ∀ {b' : Nat} {T : TypeId} {x : Value}, Boxed W3 b' T x → w.heap.size ≤ b' → Boxed (((wB.setCell ⟨p, 4, none⟩ (.map none)).setCell ⟨p, 5, none⟩ (.slice none 0 0)).setCell ⟨p, 7, none⟩ (.int .i64 0)).drew b' T x := fun {b' T x} hb hge => (same b' hb.lt (npb b' hge)).trans hb
  have off5 : ∀ g, ¬ All v3.M g ∧ ¬ All v3.I g → ¬ All v5.M g ∧ ¬ All v5.I g := fun g ⟨h1, h2⟩ => ⟨fun ⟨k, hk⟩ => by
    by_cases e : k = 1
    · subst e; rw [f4] at hk; exact hk
    · rw [(f6 k e).1] at hk; exact h1 ⟨k, hk⟩, fun ⟨k, hk⟩ => by
    by_cases e : k = 1
    · subst e; rw [f5] at hk; exact hk
    · rw [(f6 k e).2] at hk; exact h2 ⟨k, hk⟩⟩
  refine ⟨v5, ⟨Nat.zero_le _, ?_, f2, HA.tos.trans hr t5, fun n b hP _ => ?_, bx HA.dbox (HA.off _ (.inl rfl)).2, by rw [Nat.mul_zero, Nat.zero_add]; exact bx HA.abox (HA.off _ (.inr (.inl rfl))).2, bx HA.lbox (HA.off _ (.inr (.inr (.inl rfl)))).2, bx HA.rbox (HA.off _ (.inr (.inr (.inr rfl)))).2, ?_, ?_, fun g hg => ?_⟩⟩
  · show DiskIn _ p { S with fold := S.fold.survive ((num l 0 : Nat) : Int), file := S.file } 0 v5 (.map none) (.slice none 0 0) [] armed (fun _ => none)
    rw [show ({ S with fold := S.fold.survive ((num l 0 : Nat) : Int), file := S.file } : DS) = S1 from hS1]
    exact f1
  · obtain ⟨q1, q2⟩ := HA.disk.files n b hP
    rw [(f6 (n + 3) (by omega)).1, (f6 (n + 3) (by omega)).2]
    exact ⟨q1.same (fun g hg => same g (hp.mem _ g hg) (hnp _ g (by omega) hg)) (by rw [hz5, hzB]; omega), q2⟩
  · have : ((((wB.setCell ⟨p, 4, none⟩ (.map none)).setCell ⟨p, 5, none⟩ (.slice none 0 0)).setCell ⟨p, 7, none⟩ (.int .i64 0)).drew).heap[W3.heap.size]? = wB.heap[W3.heap.size]? := by
      show (((wB.setCell ⟨p, 4, none⟩ (.map none)).setCell ⟨p, 5, none⟩ (.slice none 0 0)).setCell ⟨p, 7, none⟩ (.int .i64 0)).heap[W3.heap.size]? = _
      rw [Fld.heap_setCell_ne (npb _ hw3), Fld.heap_setCell_ne (npb _ hw3), Fld.heap_setCell_ne (npb _ hw3)]
    exact this.trans x5
  · exact hd.map.same fun b hb => same b (hp.mem 1 b (.inl (hd.mapM b hb))) (hnp 1 b (by omega) (.inl (hd.mapM b hb)))
  · rcases hg with rfl | rfl | rfl | rfl | rfl | hg
    · exact off5 _ (HA.off _ (.inl rfl)).1
    · exact off5 _ (HA.off _ (.inr (.inl rfl))).1
    · exact off5 _ (HA.off _ (.inr (.inr (.inl rfl)))).1
    · exact off5 _ (HA.off _ (.inr (.inr (.inr rfl)))).1
    · exact off5 _ ⟨fun ⟨k, hk⟩ => absurd (hp.mem k _ (.inl hk)) (Nat.lt_irrefl _), fun ⟨k, hk⟩ => absurd (hp.mem k _ (.inr hk)) (Nat.lt_irrefl _)⟩
    · have hm := hd.mapM g hg
      refine ⟨fun ⟨k, hk⟩ => ?_, fun ⟨k, hk⟩ => ?_⟩
      · by_cases e : k = 1
        · subst e; rw [f4] at hk; exact hk
        · rw [(f6 k e).1] at hk; exact hp.apart k 1 g e hk hm
      · by_cases e : k = 1
        · subst e; rw [f5] at hk; exact hk
        · rw [(f6 k e).2] at hk; exact hp.read k 1 g hk hm

theorem restart_end {w W : World} {p : Nat} {S : DS} {v v7 : DV} {l : List Nat} {lv fvw fv7 : Value} {lost : List Nat} {P : Nat → Option Nat} {armed b2 ba bl b4 b5 D : Nat} (h : DiskP w p S v) (hkn : KnownIn S.fold lost P)
    (hI : RestI w p S (S.fold.survive ((num l 0 : Nat) : Int)) v l lv fvw P armed b2 ba bl b4 b5 ((S.fold.survive ((num l 0 : Nat) : Int)).there.length, v7, fv7) W) (hnf : ¬ restFoot ba ((S.fold.survive ((num l 0 : Nat) : Int)).there.length, v7, fv7) D) (hD : w.heap.size ≤ D) :
    WentK w p v (S.restart l) ((((W.setCell ⟨p, 9, none⟩ (.int .i64 0)).setCell ⟨p, 10, none⟩ (.bool false)).drew).putObj D (.deferred none)) := by
  have hr := fun b hb => h.rowLt (b := b) hb
  obtain ⟨c1, c2, c3⟩ := hI.disk.number (S' := { restS S (S.fold.survive ((num l 0 : Nat) : Int)) l (S.fold.survive ((num l 0 : Nat) : Int)).there.length with armed := 0 }) hI.parts 5 (.int .i64 0) (armed' := 0) (u' := restU (S.fold.survive ((num l 0 : Nat) : Int)).there l S.file (S.fold.survive ((num l 0 : Nat) : Int)).there.length) rfl rfl rfl (fun _ => rfl) (Nat.zero_le _)
  obtain ⟨d1, d2, d3⟩ := c1.number (S' := { restS S (S.fold.survive ((num l 0 : Nat) : Int)) l (S.fold.survive ((num l 0 : Nat) : Int)).there.length with armed := 0, down := false }) c2 6 (.bool false) (armed' := 0) (u' := restU (S.fold.survive ((num l 0 : Nat) : Int)).there l S.file (S.fold.survive ((num l 0 : Nat) : Int)).there.length) rfl rfl rfl (fun _ => rfl) (Nat.zero_le _)
  obtain ⟨e1, e2, e3⟩ := d1.below d2 (drewB _)
  obtain ⟨f1, f2⟩ := e1.still e2 (grownBy_putObj' _ D (.deferred none)) (fun r e => by cases e; exact ⟨fun h => hnf (.inl h), fun h => hnf (.inr (.inl h))⟩)
  have hS : ({ restS S (S.fold.survive ((num l 0 : Nat) : Int)) l (S.fold.survive ((num l 0 : Nat) : Int)).there.length with armed := 0, down := false } : DS) = S.restart l := rfl
  have hU : restU (S.fold.survive ((num l 0 : Nat) : Int)).there l S.file (S.fold.survive ((num l 0 : Nat) : Int)).there.length = (S.restart l).used := by
    unfold restU
    rw [List.take_length]
    rfl
  rw [hS, hU] at f1
  refine ⟨v7, ⟨⟨_, _, [], 0, _, f1, ?_, (fun x hx => by cases hx), Nat.zero_le _⟩, Fld.good_survive h.good _, f2, h.room⟩, (((hI.tos.trans hr c3).trans hr d3).trans hr e3).still hr (grownBy_putObj' _ D _) (fun r e => by cases e; exact hD)⟩
  have hk := (known_survive hkn.1 ((num l 0 : Nat) : Int)).there
  refine known_flat fun q hq => ?_
  have hq' : q ∈ (S.fold.survive ((num l 0 : Nat) : Int)).there := hq
  obtain ⟨b, hb⟩ := hk q hq'
  refine ⟨b, ?_⟩
  have hm : q.2 ∈ nums (S.fold.survive ((num l 0 : Nat) : Int)).there (S.fold.survive ((num l 0 : Nat) : Int)).there.length := by
    unfold nums
    rw [List.take_length]
    exact List.mem_map.2 ⟨q, hq', rfl⟩
  exact (if_pos hm).trans hb

set_option maxRecDepth 100000 in
set_option maxHeartbeats 4000000 in
theorem restart_in (n : Nat) (hn : 6 ≤ n) {w : World} {p : Nat} {S : DS} {v : DV} {l : List Nat} {lv : Value} (h : DiskP w p S v) (hl : S.fold.weight ≤ 80000) (hacts : ∀ n, (S.file n).A.length ≤ 1000) (hsmall : ∀ n, (S.file n).heft ≤ 100000) (hr : Row16 w lv l) (hll : l.length ≤ 1000000) (hlv : ∀ b o n c, lv = .slice (some ⟨b, o, none⟩) n c → n ≠ 0 → ¬ All v.M b ∧ b < w.heap.size) (h16 : ∀ i, num l i ≤ 65535) :
    CallsIn Fence.wide n Tryz.prog 14 #[.pointer (some ⟨p, 0, none⟩), lv] w fun e w' => e = .returned (.tuple #[]) ∧ WentK w p v (S.restart l) w' := by
  have h1 : 1 ≤ n := by omega
  obtain ⟨fv, lv0, lost, armed, P, d0, hkn⟩ := h.it
  have hne := fun (W : World) => nil_disk_eq W p
  have hsf := store_func
  have hsm := store_map
  obtain ⟨mo, rfl⟩ := d0.map.shape
  obtain ⟨ad, c, rfl, hc⟩ := id hr
  refine callsIn_of_wp_marks Tryz.func14 rfl trivial ?_ rfl
  simp only [Tryz.ntmps14, List.size_toArray, List.length_cons, List.length_nil, Nat.reduceAdd, Nat.reduceSub, Array.replicate_succ, Array.replicate_zero, List.push_toArray, List.append_toArray, List.nil_append, List.cons_append]
  gi_wp2_with (first
    | (refine ⟨trivial, ?_⟩; gi_at_call 55; go_loud (refine (callsIn_wide.2 (read_any _ _ _ _)).mono ?_; rintro e w1 ⟨ba, bl, rfl, xa, xl, z1, z2, hb1⟩)))
  have b1 : Below w.heap.size w (w.alloc (.cells #[.pointer (some ⟨p, 0, none⟩)] 27)) := (Below.refl _ w).alloc (Nat.le_refl _) _
  have o1 := World.alloc_heap_new w (.cells #[.pointer (some ⟨p, 0, none⟩)] 27)
  have hw1 : Below w.heap.size w w1 := Below.next b1 hb1
  have hz0 : (w.alloc (.cells #[.pointer (some ⟨p, 0, none⟩)] 27)).heap.size = w.heap.size + 1 := by simp
  have x2 : Boxed w1 w.heap.size 27 (.pointer (some ⟨p, 0, none⟩)) := (hb1.block _ (by rw [hz0]; omega)).trans o1
  have x4 : Boxed (w1.alloc (.cells #[.func (.func 115) #[] #[.pointer (some ⟨ba, 0, none⟩), .pointer (some ⟨bl, 0, none⟩)]] 100)) w1.heap.size 100 (.func (.func 115) #[] #[.pointer (some ⟨ba, 0, none⟩), .pointer (some ⟨bl, 0, none⟩)]) := World.alloc_heap_new w1 _
  have bA : Below w1.heap.size w1 (w1.alloc (.cells #[.func (.func 115) #[] #[.pointer (some ⟨ba, 0, none⟩), .pointer (some ⟨bl, 0, none⟩)]] 100)) := (Below.refl _ w1).alloc (Nat.le_refl _) _
  have xa' := boxed_below xa bA
  have xl' := boxed_below xl bA
  have x2' := boxed_below x2 bA
  have bw := Below.next hw1 bA
  have hbz : ba < w1.heap.size := xa.lt
  have hz1 := hb1.size
  obtain ⟨wA, hwA⟩ : ∃ wA, w1.alloc (.cells #[.func (.func 115) #[] #[.pointer (some ⟨ba, 0, none⟩), .pointer (some ⟨bl, 0, none⟩)]] 100) = wA := ⟨_, rfl⟩
  have hzA : wA.heap.size = w1.heap.size + 1 := by rw [← hwA]; simp
  generalize hb4 : w1.heap.size = b4 at x4 hbz hzA ⊢
  generalize hb2 : w.heap.size = b2 at x2 x2' ⊢
  rw [hwA] at x4 xa' xl' x2' bw ⊢
  have bD : Below w.heap.size w wA.drew := bw.drew
  have rw' : Row16 wA.drew (.slice ad l.length c) l := hr.same fun b o n' c' e e9 => bD.block b (hlv b o n' c' e e9).2
  have hba2 : w.heap.size ≤ ba := by omega
  have hne2 : ∀ b o n' c', Value.slice ad l.length c = .slice (some ⟨b, o, none⟩) n' c' → n' ≠ 0 → b ≠ ba := fun b o n' c' e e9 => by have := (hlv b o n' c' e e9).2; omega
  have offa : ¬ All v.M ba ∧ ¬ All v.I ba := ⟨fun ⟨k, hk⟩ => by have := h.parts.mem k ba (.inl hk); omega, fun ⟨k, hk⟩ => by have := h.parts.mem k ba (.inr hk); omega⟩
  have QN := Lib.hid (callsIn_wide (n := n - 1) |>.2 (num_next (a := 0) (W := wA.drew) xl' (by rw [Nat.zero_min]; exact xa') rw' hll hne2))
  have QS := Lib.hid (fun W (g : wA.drew.grownBy W (some ba)) => callsIn_wide (n := n - 1) |>.2 (by
    obtain ⟨e1, e2, e3⟩ := d0.below h.parts bD
    obtain ⟨f1, f2⟩ := e1.still e2 g (fun r e => by cases e; exact offa)
    exact fold_survive f1 f2 ((num l 0 : Nat) : Int) (by have := h16 0; omega) (by omega)))
  have X2 := Lib.hid (fun W (g : wA.drew.grownBy W (some ba)) => ((boxed_drew x2').kept g (fun e => Fld.two_types x2' xa' (by decide) (Option.some.inj e)) : Boxed W b2 27 _))
  have k2 := x2'.cell
  have k4 := x4.cell
  have hmo : Tryz.prog.follows .mixedOrders = true := by kernel_rfl
  have HAH := Lib.hid (fun W2 W3 v3 => @ahead_of w wA.drew W2 W3 p S v v3 l (.slice ad l.length c) (.map mo) lv0 lost armed P b2 ba bl b4 h d0 bD)
  refine region_norm (fun a W => a = { tmps := #[.pointer (some ⟨p, 0, none⟩), .slice ad l.length c, .pointer (some ⟨b2, 0, none⟩), undef, .pointer (some ⟨b4, 0, none⟩), undef, undef, undef, undef, undef, undef, .pointer (some ⟨p, 0, none⟩), .bool false, .slice ad l.length c, .agg #[.func (.func 115) #[] #[.pointer (some ⟨ba, 0, none⟩), .pointer (some ⟨bl, 0, none⟩)]], .pointer (some ⟨p, 0, none⟩), .pointer (some ⟨p, 0, none⟩), .pointer (some ⟨p, 0, none⟩), .pointer (some ⟨b4, 0, none⟩), .func (.func 115) #[] #[.pointer (some ⟨ba, 0, none⟩), .pointer (some ⟨bl, 0, none⟩)], .int .i64 ((num l 0 : Nat) : Int), .tuple #[], undef, undef, undef, undef, undef, undef, undef, undef, undef, undef, undef, undef, undef, undef, undef, undef, undef, undef, undef, undef, undef, undef, undef, undef, undef, undef, undef, undef, undef, undef, undef, undef, undef, undef, undef, undef, undef, undef, undef, undef, undef], defers := [] } ∧ ∃ v3, Ahead w p S v l (.slice ad l.length c) (.map mo) lv0 lost armed P b2 ba bl b4 v3 W) ?_ ?_
  · first | (gi_region_with_o (first
      | (refine ⟨trivial, ?_⟩; gi_at_call 56; go_loud (refine (QS.out _ g2).mono ?_; rintro e w3 ⟨rfl, v3, d3, p3, t3, o3⟩))
      | (refine ⟨trivial, ?_⟩; go_loud (refine QN.out.mono ?_; rintro e w2 ⟨rfl, xa2, g2⟩; have k22 := (X2.out _ g2).cell)))) | fail
    all_goals exact ⟨rfl, v3, HAH.out _ _ _ g2 hba2 (boxed_drew x2') (boxed_drew xl') (boxed_drew x4) xa2 ⟨_, boxed_drew xa'⟩ (by omega) (by omega) (by omega) d3 p3 t3 o3⟩
  rintro a W3 ⟨rfl, v3, HA3⟩
  clear QN QS X2 k2 k4 HAH
  have kd := HA3.dbox.cell
  obtain ⟨c4, c5, _, c7, _, c9, c10, cf⟩ := HA3.disk.cells
  have f4 := cf 4
  have f5 := cf 5
  have f7 := cf 7
  have hpl := HA3.disk.p_mem.2
  have hmo2 : Tryz.prog.follows .mixedOrders = true := by kernel_rfl
  have hW3 : w.heap.size ≤ W3.heap.size := HA3.tos.kept.size
  gi_wp2
  obtain ⟨v5, HR0⟩ := reset_disk h HA3 hW3
  obtain ⟨wB, hwB⟩ : ∃ wB, W3.alloc (.cells #[.map mo] 74) = wB := ⟨_, rfl⟩
  have bB : Below W3.heap.size W3 wB := by rw [← hwB]; exact (Below.refl _ W3).alloc (Nat.le_refl _) _
  have kd' : wB.cell? ⟨b2, 0, none⟩ = some (.pointer (some ⟨p, 0, none⟩)) := (boxed_below HA3.dbox bB).cell
  obtain ⟨c4', c5', _, c7', _, _, _, cf'⟩ := (HA3.disk.below HA3.parts bB).1.cells
  have f4' := cf' 4
  have f5' := cf' 5
  have f7' := cf' 7
  have hplB : p < wB.heap.size := Nat.lt_of_lt_of_le hpl bB.size
  obtain ⟨alv, clv, hlvs⟩ := ownsSlice HA3.disk.row
  have c5'' : wB.cell? ⟨p, 5, none⟩ = some (.slice alv lost.length clv) := by rw [c5', hlvs]
  rw [hwB] at HR0 ⊢
  generalize W3.heap.size = b5 at HR0 ⊢
  refine region_norm (fun a W => a = { tmps := #[.pointer (some ⟨p, 0, none⟩), .slice ad l.length c, .pointer (some ⟨b2, 0, none⟩), undef, .pointer (some ⟨b4, 0, none⟩), .pointer (some ⟨b5, 0, none⟩), undef, undef, undef, undef, undef, .pointer (some ⟨p, 0, none⟩), .bool false, .slice ad l.length c, .agg #[.func (.func 115) #[] #[.pointer (some ⟨ba, 0, none⟩), .pointer (some ⟨bl, 0, none⟩)]], .pointer (some ⟨p, 0, none⟩), .pointer (some ⟨p, 0, none⟩), .pointer (some ⟨p, 0, none⟩), .pointer (some ⟨b4, 0, none⟩), .func (.func 115) #[] #[.pointer (some ⟨ba, 0, none⟩), .pointer (some ⟨bl, 0, none⟩)], .int .i64 ((num l 0 : Nat) : Int), .tuple #[], .pointer (some ⟨p, 0, none⟩), .pointer (some ⟨p, 0, none⟩), .pointer (some ⟨p, 4, none⟩), .map mo, .pointer (some ⟨p, 0, none⟩), .pointer (some ⟨p, 0, none⟩), .pointer (some ⟨p, 0, none⟩), .pointer (some ⟨p, 0, none⟩), .pointer (some ⟨p, 4, none⟩), .pointer (some ⟨p, 0, none⟩), .pointer (some ⟨p, 5, none⟩), .pointer (some ⟨p, 0, none⟩), .pointer (some ⟨p, 7, none⟩), undef, undef, undef, undef, undef, undef, undef, undef, undef, undef, undef, undef, undef, undef, undef, undef, undef, undef, undef, undef, undef, undef, undef, undef, undef, undef, undef, undef], defers := [] } ∧ W = (((wB.setCell ⟨p, 4, none⟩ (.map none)).setCell ⟨p, 5, none⟩ (.slice none 0 0)).setCell ⟨p, 7, none⟩ (.int .i64 0)).drew) ?_ ?_
  · clear c4 c5 c7 c9 c10 cf f4 f5 f7 cf' c5' kd hlvs
    first | (gi_region_with_o (fail)) | fail
    all_goals exact ⟨rfl, rfl⟩
  rintro a W5 ⟨rfl, rfl⟩
  have k6 := HR0.dbox.cell
  clear c4 c5 c7 c9 c10 cf f4 f5 f7 cf' c5' kd hlvs f4' f5' f7' c4' c5'' c7' kd' bB hplB hpl
  obtain ⟨W5, hW5⟩ : ∃ W5, (((wB.setCell ⟨p, 4, none⟩ (.map none)).setCell ⟨p, 5, none⟩ (.slice none 0 0)).setCell ⟨p, 7, none⟩ (.int .i64 0)).drew = W5 := ⟨_, rfl⟩
  rw [hW5] at HR0 k6 ⊢
  gi_wp2_with (refine ⟨trivial, ?_⟩; gi_at_call 57; go_loud (refine (callsIn_wide.2 (there_any _ p)).mono ?_; rintro e W6 ⟨bd, rfl, hbd, hbl, hb6⟩))
  have hrr := fun b hb => h.rowLt (b := b) hb
  have hwz : w.heap.size ≤ W5.heap.size := HR0.tos.kept.size
  have hbox : b2 < W5.heap.size ∧ ba < W5.heap.size ∧ bl < W5.heap.size ∧ b4 < W5.heap.size ∧ b5 < W5.heap.size := ⟨HR0.dbox.lt, HR0.abox.lt, HR0.lbox.lt, HR0.rbox.lt, HR0.wbox.lt⟩
  have hmlt : ∀ b, Fld.mapOf (.map mo) = some b → b < W5.heap.size := fun b hb => by
    rcases HR0.were with ⟨e, _⟩ | ⟨m, e, hm⟩
    · rw [e] at hb; cases hb
    · rw [e] at hb; cases hb; exact hm.lt
  have HR6 : RestI w p S (S.fold.survive ((num l 0 : Nat) : Int)) v l (.slice ad l.length c) (.map mo) P armed b2 ba bl b4 b5 (0, v5, .map none) W6 :=
    RestI.bides hrr hwz hbox.1 hbox.2.2.1 hbox.2.2.2.1 hbox.2.2.2.2 hmlt W5 W6 none HR0 ⟨hb6.os, hb6.tape, hb6.output, hb6.size, fun k hk _ => hb6.block k hk⟩ (fun r e => by cases e)
  have hz6 := hb6.size
  have hv5 := HR0.parts
  have hPk : ∀ k, k < (S.fold.survive ((num l 0 : Nat) : Int)).there.length → ∃ b, P (nam (S.fold.survive ((num l 0 : Nat) : Int)).there k).2 = some b := fun k hk => (known_survive hkn.1 _).there _ (Fld.nam_mem hk)
  have hTw := Fld.weight_survive S.fold ((num l 0 : Nat) : Int)
  have hTn1 : (S.fold.survive ((num l 0 : Nat) : Int)).n ≤ (S.fold.survive ((num l 0 : Nat) : Int)).weight := Nat.le_add_left _ _
  have hTn2 := Fld.FS.there_length (S.fold.survive ((num l 0 : Nat) : Int))
  have hT := (Fld.good_survive h.good ((num l 0 : Nat) : Int)).there
  have hgood := Fld.good_survive h.good ((num l 0 : Nat) : Int)
  have hwt := Fld.weight_survive S.fold ((num l 0 : Nat) : Int)
  clear HR0 hW5 k6 hwB
  refine wpIn_range_foot h1 (gf := 116) (lb := #[.pointer (some ⟨bd, 0, none⟩)]) rfl (enters_of Tryz.func116 (by kernel_rfl) rfl)
    (there_iter (n - 1) (by omega) (σ := Nat × DV × Value) (fun x => x.1) (restFoot ba) W6 (s0 := (0, v5, .map none)) hgood (by omega) hbd ?nb rfl) (fun _ => rfl) (RestI w p S (S.fold.survive ((num l 0 : Nat) : Int)) v l (.slice ad l.length c) (.map mo) P armed b2 ba bl b4 b5) (fun _ _ => False)
    (fun x a' W => a' = { tmps := #[.pointer (some ⟨p, 0, none⟩), .slice ad l.length c, .pointer (some ⟨b2, 0, none⟩), undef, .pointer (some ⟨b4, 0, none⟩), .pointer (some ⟨b5, 0, none⟩), undef, .int .i64 (((nam (S.fold.survive ((num l 0 : Nat) : Int)).there x.1).2 : Nat) : Int), undef, undef, undef, .pointer (some ⟨p, 0, none⟩), .bool false, .slice ad l.length c, .agg #[.func (.func 115) #[] #[.pointer (some ⟨ba, 0, none⟩), .pointer (some ⟨bl, 0, none⟩)]], .pointer (some ⟨p, 0, none⟩), .pointer (some ⟨p, 0, none⟩), .pointer (some ⟨p, 0, none⟩), .pointer (some ⟨b4, 0, none⟩), .func (.func 115) #[] #[.pointer (some ⟨ba, 0, none⟩), .pointer (some ⟨bl, 0, none⟩)], .int .i64 ((num l 0 : Nat) : Int), .tuple #[], .pointer (some ⟨p, 0, none⟩), .pointer (some ⟨p, 0, none⟩), .pointer (some ⟨p, 4, none⟩), .map mo, .pointer (some ⟨p, 0, none⟩), .pointer (some ⟨p, 0, none⟩), .pointer (some ⟨p, 0, none⟩), .pointer (some ⟨p, 0, none⟩), .pointer (some ⟨p, 4, none⟩), .pointer (some ⟨p, 0, none⟩), .pointer (some ⟨p, 5, none⟩), .pointer (some ⟨p, 0, none⟩), .pointer (some ⟨p, 7, none⟩), .pointer (some ⟨p, 0, none⟩), .func (.func 116) #[] #[.pointer (some ⟨bd, 0, none⟩)], .string (Fld.strO (nam (S.fold.survive ((num l 0 : Nat) : Int)).there x.1).1), .int .i64 (((nam (S.fold.survive ((num l 0 : Nat) : Int)).there x.1).2 : Nat) : Int), undef, undef, undef, undef, undef, undef, undef, undef, undef, undef, undef, undef, undef, undef, undef, undef, undef, undef, undef, undef, undef, undef, undef, undef], defers := [] })
    ?bi ?bx ?ba ?bm ?f0 ?start ?assign ?body ?done ?stop
  case nb =>
    rintro (⟨k, e⟩ | ⟨k, e⟩ | e)
    · have := hv5.mem k bd (.inl e); omega
    · have := hv5.mem k bd (.inr e); omega
    · omega
  case bi => exact fun x => RestI.bides hrr (by omega) (by omega) (by omega) (by omega) (by omega) (fun b hb => by have := hmlt b hb; omega)
  case bx => exact fun c W W' hf _ => hf.elim
  case ba => exact fun x a' W W' row hx _ _ => hx
  case bm => exact fun R x W hI => hI.1.disk.tells (by show (S.fold.survive ((num l 0 : Nat) : Int)).weight ≤ 90000; omega)
  case f0 =>
    rintro g (⟨k, e⟩ | ⟨k, e⟩ | e)
    · exact HR6.parts.mem k g (.inl e)
    · exact HR6.parts.mem k g (.inr e)
    · omega
  case start => exact HR6
  case assign =>
    intro l x W hI
    gi_wp2
    first
      | exact ⟨⟨rfl, rfl, rfl, Nat.le_refl _, fun _ _ _ => rfl⟩, trivial⟩
      | exact ⟨rfl, rfl, rfl, Nat.le_refl _, fun _ _ _ => rfl⟩
  case body =>
    rintro lid ⟨k, v7, fv7⟩ a' W hnf hft hWz hI rfl
    have hlt : k < (S.fold.survive ((num l 0 : Nat) : Int)).there.length := by simpa using hnf
    obtain ⟨b, hb⟩ := hPk k hlt
    have hxb : (nam (S.fold.survive ((num l 0 : Nat) : Int)).there k).2 ≤ 1000000000 := by
      have := (hT.range _ (Fld.nam_mem hlt)).2
      omega
    have q3 := hI.were.look hxb hb
    have hbo : ∀ b o n c', Value.slice ad l.length c = .slice (some ⟨b, o, none⟩) n c' → n ≠ 0 → W.heap[b]? = w.heap[b]? := fun b o n c' e e9 => hI.tos.kept.block b (hlv b o n c' e e9).2 (hlv b o n c' e e9).1
    have rwW : Row16 W (.slice ad l.length c) l := hr.same hbo
    have nba : ∀ {b' : Nat} {T : TypeId} {x : Value}, Boxed W b' T x → T ≠ 3 → some b' ≠ some ba := fun {b' T x} h hT e => Fld.two_types h hI.abox hT (Option.some.inj e)
    have HB := Lib.hid (fun W1 (g : W.grownBy W1 (some ba)) => And.intro (hI.lbox.kept g (nba hI.lbox (by decide))) (And.intro (hI.rbox.kept g (nba hI.rbox (by decide))) (rwW.same (fun b o n c' e e9 => g.block b (Nat.lt_of_lt_of_le (hlv b o n c' e e9).2 hI.tos.kept.size) (fun e' => hne2 b o n c' e e9 (Option.some.inj e'))))))
    have QN1 := Lib.hid (callsIn_wide (n := n - 1 - 1 - 1) |>.2 (num_next (a := 2 * k + 1) hI.lbox hI.abox rwW hll hne2))
    have QN2 := Lib.hid (fun W1 (g : W.grownBy W1 (some ba)) ha => callsIn_wide (n := n - 1 - 1 - 1) |>.2 (num_next (a := 2 * k + 1 + 1) (W := W1) (HB.out W1 g).1 ha (HB.out W1 g).2.2 hll hne2))
    have QST := Lib.hid (fun W2 (g : W.grownBy W2 (some ba)) ha => (RestI.next hI hrr hba2 g ha hT (by omega) (by omega) hlt hacts hsmall hb (Nat.le_trans hI.tos.kept.size g.size) h16))
    have hn2 : 1 ≤ n - 1 - 1 := by omega
    have k5 := hI.wbox.cell
    have k4 := hI.rbox.cell
    have HI := Lib.hid hI
    obtain ⟨xn, hx⟩ : ∃ xn, (nam (S.fold.survive ((num l 0 : Nat) : Int)).there k).2 = xn := ⟨_, rfl⟩
    rw [hx] at q3
    rw [hx] at QST
    obtain ⟨nm, hnm⟩ : ∃ nm, Fld.strO (nam (S.fold.survive ((num l 0 : Nat) : Int)).there k).1 = nm := ⟨_, rfl⟩
    dsimp only
    rw [hx, hnm]
    clear hI hb hxb hbo rwW nba hx hnm
    gi_wp2_with (first
      | (refine ⟨trivial, ?_⟩; gi_at_call 58; go_loud (refine (CallsIn.inRound lid (callsIn_wide.2 (QST.out _ (g1.trans g2) xa2))).mono ?_; rintro e w3 ⟨rfl, xd3, q4⟩; have kd3 := xd3.cell; have Q4 := Lib.hid q4; clear q4))
      | (refine ⟨trivial, ?_⟩; gi_at_call 39; go_loud (refine (CallsIn.inRound lid (callsIn_wide.2 Q4.out)).mono ?_; rintro e w4 ⟨rfl, v4, fv4, hI4, hz4, hs4, hf4⟩))
      | (refine ⟨trivial, ?_⟩; go_loud (refine (CallsIn.inRound lid QN1.out).mono ?_; rintro e w1' ⟨rfl, xa1, g1⟩; have k41 := ((HB.out _ g1).2.1 : Boxed _ _ _ _).cell))
      | (refine ⟨trivial, ?_⟩; go_loud (refine (CallsIn.inRound lid (QN2.out _ g1 xa1)).mono ?_; rintro e w2' ⟨rfl, xa2, g2⟩)))
    have hB0 : ¬ restFoot ba (k, v7, fv7) W6.heap.size := fun h => by rcases hft _ h with h | h <;> omega
    have hB1 : ¬ restFoot ba (k, v7, fv7) (W6.heap.size + 1) := fun h => by rcases hft _ h with h | h <;> omega
    exact ⟨⟨hs4 _ (by omega) hB0, hs4 _ (by omega) hB1⟩, hz4, fun r cs T fz hr hx => (hs4 r (Array.getElem?_eq_some_iff.1 hr).1 hx).trans hr, (k + 1, v4, fv4), rfl, hf4, hI4⟩
  case done =>
    rintro D ⟨k, v7, fv7⟩ W hD hfin hI hK hnf2
    have hk : k = (S.fold.survive ((num l 0 : Nat) : Int)).there.length := Nat.le_antisymm hI.le hfin
    subst hk
    have HW := Lib.hid (restart_end h hkn hI hnf2 (by omega))
    have kd := hI.dbox.cell
    obtain ⟨_, _, _, _, _, c9, c10, cf⟩ := hI.disk.cells
    have f9 := cf 9
    have f10 := cf 10
    have hpl := hI.disk.p_mem.2
    have hDp : D ≠ p := by
      obtain ⟨cs, hc⟩ := h.cellP
      have := (Array.getElem?_eq_some_iff.1 hc).1
      omega
    have hK' : (((W.setCell ⟨p, 9, none⟩ (.int .i64 0)).setCell ⟨p, 10, none⟩ (.bool false)).drew).heap[D]? = some (.deferred (some [])) := by
      show ((W.setCell ⟨p, 9, none⟩ (.int .i64 0)).setCell ⟨p, 10, none⟩ (.bool false)).heap[D]? = _
      rw [Fld.heap_setCell_ne hDp, Fld.heap_setCell_ne hDp]
      exact hK
    clear cf
    gi_wp2
    refine region_plain (fun a W' => a.defers = [{ target := .collected D, args := #[] }] ∧ W' = ((W.setCell ⟨p, 9, none⟩ (.int .i64 0)).setCell ⟨p, 10, none⟩ (.bool false)).drew) ?_ ?_
    · first | (gi_region_with_o (fail)) | fail
      all_goals exact ⟨rfl, rfl⟩
    rintro ⟨tmps, defers⟩ W' ⟨ha, rfl⟩
    have ha : defers = [{ target := .collected D, args := #[] }] := ha
    subst ha
    refine ⟨by simp, .inl ⟨_, _, rfl, run_takeDeferred hK', ?_⟩⟩
    exact ⟨_, results_none rfl _ _ _, rfl, HW.out⟩
  case stop => exact fun D c W hD hX hK => hX.elim

theorem disk_restart {w : World} {p : Nat} {S : DS} {v : DV} {l : List Nat} {lv : Value} (h : DiskP w p S v) (hl : S.fold.weight ≤ 80000) (hacts : ∀ n, (S.file n).A.length ≤ 1000) (hsmall : ∀ n, (S.file n).heft ≤ 100000) (hr : Row16 w lv l) (hll : l.length ≤ 1000000) (hlv : ∀ b o n c, lv = .slice (some ⟨b, o, none⟩) n c → n ≠ 0 → ¬ All v.M b ∧ b < w.heap.size) (h16 : ∀ i, num l i ≤ 65535) :
    Calls Tryz.prog 14 #[.pointer (some ⟨p, 0, none⟩), lv] w fun e w' => e = .returned (.tuple #[]) ∧ WentK w p v (S.restart l) w' :=
  callsIn_wide.1 (restart_in 6 (Nat.le_refl _) h hl hacts hsmall hr hll hlv h16)
end Go.Proofs.YtmmoilmfpiclgaaGreat

/-
  The document's Get. The document's Put at a transducer that may be laid: a text, of no great size. The document's Put, told whole.
-/
import Derived.Test.YtjiilmiikejnhaaDoorP31
import Derived.Test.YtjiilmiikejnhaaDoorP19
import Derived.Test.YtjiilmiikejnhaaDoorP13
import Derived.BigRegion
import Derived.RegionTactic
import Derived.Test.YtjiilmiikejnhaaDoorP15
import Derived.Test.YtjiilmiikejnhaaDoorP29
set_option linter.unusedVariables false
set_option linter.unusedSimpArgs false
namespace Go.Proofs.YtjiilmiikejnhaaDoor
open Go.RowKit Go.Shelf Said

theorem flt_free {w : World} {b : Nat} {c p : Int} (h : FltB w b c p) (o : Nat) : w.frozen? ⟨b, o, none⟩ = false := by
  unfold FltB at h
  simp [World.frozen?, h]
/-- An arc in its own box. -/
def AxB (w : World) (p b o : Nat) (t : Int) : Prop := w.heap[p]? = some (.cells #[.int .u8 (b : Int), .int .u64 (o : Int), .int .i64 t] 66 (0, 0))
theorem AxB.lt {w : World} {p b o : Nat} {t : Int} (h : AxB w p b o t) : p < w.heap.size := (Array.getElem?_eq_some_iff.1 h).1
theorem AxB.at0 {w : World} {p b o : Nat} {t : Int} (h : AxB w p b o t) : w.cell? ⟨p, 0, none⟩ = some (.int .u8 (b : Int)) := by rw [cell_of_row w p 0 _ _ _ h]; rfl
theorem AxB.at1 {w : World} {p b o : Nat} {t : Int} (h : AxB w p b o t) : w.cell? ⟨p, 1, none⟩ = some (.int .u64 (o : Int)) := by rw [cell_of_row w p 1 _ _ _ h]; rfl
theorem AxB.at2 {w : World} {p b o : Nat} {t : Int} (h : AxB w p b o t) : w.cell? ⟨p, 2, none⟩ = some (.int .i64 t) := by rw [cell_of_row w p 2 _ _ _ h]; rfl
theorem AxB.free {w : World} {p b o : Nat} {t : Int} (h : AxB w p b o t) (n : Nat) : w.frozen? ⟨p, n, none⟩ = false := by
  unfold AxB at h
  simp [World.frozen?, h]
theorem AxB.kp {w w' : World} {M : Nat → Prop} {p b o : Nat} {t : Int} (h : AxB w p b o t) (hk : Kp M w w') (hm : ¬ M p) : AxB w' p b o t := (hk.block p h.lt hm).trans h
theorem AxB.set1 {w : World} {p b o : Nat} {t : Int} (h : AxB w p b o t) (m : Nat) : AxB (w.setCell ⟨p, 1, none⟩ (.int .u64 (m : Int))) p b m t := cells_setCell h 1 _
theorem AxB.set2 {w : World} {p b o : Nat} {t : Int} (h : AxB w p b o t) (m : Int) : AxB (w.setCell ⟨p, 2, none⟩ (.int .i64 m)) p b o m := cells_setCell h 2 _
theorem in_rows {w W : World} {q base : Nat} {O : ByteArray} {x : IS} {v : Value} {xs : List (Value × DSt)} (h : RowsI w base v xs) (hi : InB w q O x) (hk : Kp (fun g => g = q) w W) : RowsI W base v xs :=
  h.kp hk fun g cs fz _ hc e => by
    subst e
    unfold InB at hi
    rw [hi] at hc
    rcases hc with hc | hc <;> cases hc
theorem in_arow {w W : World} {q base : Nat} {O : ByteArray} {x : IS} {v : Value} {l : List DArc} (h : ARow w base v l) (hi : InB w q O x) (hk : Kp (fun g => g = q) w W) : ARow W base v l :=
  h.kp hk fun g hg e => by
    subst e
    obtain ⟨_, cs, fz, hc⟩ := owns_cells h g hg
    unfold InB at hi
    rw [hi] at hc
    cases hc
theorem IS.c_dec (x : IS) (h : ¬ x.c = 0) : ((x.c : Int) == 0) = false := by rw [beq_eq_false_iff_ne]; omega

/-- What it hands back. -/
def RefGot (w : World) (r : Except (Nat × Nat) (Nat × List DSt × Nat)) (e : Ending) (w' : World) : Prop :=
  match r with
  | .ok (n, l, i) => (∃ ad c, e = .returned (.tuple #[.int .i64 (n : Int), .agg #[.slice ad l.length c, .int .u64 (i : Int)], .agg #[.int .i64 0, .int .i64 0]]) ∧ Sts w' (.slice ad l.length c) l) ∧ Below w.heap.size w w'
  | .error (c, p) => e = .returned (.tuple #[.int .i64 0, .agg #[.slice none 0 0, .int .u64 0], .agg #[.int .i64 (c : Int), .int .i64 (p : Int)]]) ∧ Below w.heap.size w w'

theorem ArcIn.neF {w : World} {b o p : Nat} {a : DArc} {c r : Int} (h : ArcIn w b o a) (hf : FltB w p c r) : b ≠ p := fun e => by
  subst e
  have h0 := h.1
  rw [cell_of_row w b o _ _ _ hf] at h0
  match o, h0 with
  | 0, h0 => simp at h0
  | 1, h0 => simp at h0
  | o + 2, h0 => simp at h0
theorem bool_neF {w : World} {b o p : Nat} {f : Bool} {c r : Int} (h : w.cell? ⟨b, o + 1, none⟩ = some (.bool f)) (hf : FltB w p c r) : b ≠ p := fun e => by
  subst e
  rw [cell_of_row w b (o + 1) _ _ _ hf] at h
  match o, h with
  | 0, h => simp at h
  | o + 1, h => simp at h
theorem Sts.setF {w w' : World} {p : Nat} {v : Value} {c r : Int} {l : List DSt} (h : Sts w v l) (hf : FltB w p c r) (hk : Kp (fun g => g = p) w w') : Sts w' v l := by
  obtain ⟨ad', c', rfl, hc⟩ := h
  refine ⟨ad', c', rfl, fun i hi => ?_⟩
  obtain ⟨b, o, e, x, h1, h2, h3, ad2, c2, rfl, h4⟩ := hc i hi
  have hs := hk.block b (block_lt_of_cell h1) (bool_neF h2 hf)
  refine ⟨b, o, e, _, (cell_same hs).trans h1, (cell_same hs).trans h2, (cell_same hs).trans h3, ad2, c2, rfl, fun j hj => ?_⟩
  obtain ⟨b', o', e', hE⟩ := h4 j hj
  exact ⟨b', o', e', hE.kept (hk.block b' hE.lt (hE.neF hf))⟩
theorem FltB.set {w : World} {b : Nat} {c p : Int} (h : FltB w b c p) (c' p' : Int) : FltB ((w.setCell ⟨b, 0, none⟩ (.int .i64 c')).setCell ⟨b, 1, none⟩ (.int .i64 p')) b c' p' := cells_setCell (cells_setCell h 0 _) 1 _
theorem ref_out {w W : World} {p init : Nat} {v : Value} {c r : Int} {S : List DSt} {ad : Option Addr} {k cc : Nat} (hf : FstB w p (.slice none 0 0) 0) (hg : FltB w (p + 1) 0 0) (hS : Sts w v S) (hv : v = .slice ad k cc)
    (hW : W = (((w.setCell ⟨p, 0, none⟩ v).setCell ⟨p, 1, none⟩ (.int .u64 (init : Int))).setCell ⟨p + 1, 0, none⟩ (.int .i64 c)).setCell ⟨p + 1, 1, none⟩ (.int .i64 r)) :
    FstB W p v init ∧ FltB W (p + 1) c r ∧ Sts W v S ∧ Kp (fun g => g = p ∨ g = p + 1) w W := by
  obtain ⟨W1, hW1⟩ : ∃ W1, W1 = (w.setCell ⟨p, 0, none⟩ v).setCell ⟨p, 1, none⟩ (.int .u64 (init : Int)) := ⟨_, rfl⟩
  obtain ⟨o1, o2, o3⟩ := fst_out hf hS hv hW1
  have g1 : FltB W1 (p + 1) 0 0 := hg.kp o3 (by omega)
  rw [← hW1] at hW
  have hk := (kp_set W1 (p + 1) 0 (.int .i64 c)).trans (kp_set _ (p + 1) 1 (.int .i64 r)) (fun g e => .inl e)
  rw [← hW] at hk
  exact ⟨o1.kp hk (by omega), by rw [hW]; exact g1.set c r, o2.setF g1 hk, (o3.mono fun g e => .inl (.inl e)).trans hk (fun g e => .inl (.inr e))⟩
theorem ref_outD {w W0 W : World} {p init : Nat} {v : Value} {c r : Int} {S : List DSt} {ad : Option Addr} {k cc : Nat} (hf : FstB w p (.slice none 0 0) 0) (hg : FltB w (p + 1) 0 0) (hS : Sts w v S) (hv : v = .slice ad k cc)
    (hW0 : W0 = (((w.setCell ⟨p, 0, none⟩ v).setCell ⟨p, 1, none⟩ (.int .u64 (init : Int))).setCell ⟨p + 1, 0, none⟩ (.int .i64 c)).setCell ⟨p + 1, 1, none⟩ (.int .i64 r)) (hW : W = W0.drew) :
    FstB W p v init ∧ FltB W (p + 1) c r ∧ Sts W v S ∧ Kp (fun g => g = p ∨ g = p + 1) w W := by
  obtain ⟨h1, h2, h3, h4⟩ := ref_out hf hg hS hv hW0
  subst hW
  exact ⟨h1, h2, h3.below (Below.refl _ _).drew, h4.drew⟩
theorem sts_none (w : World) : Sts w (.slice none 0 0) [] := ⟨none, 0, rfl, fun i hi => by simp at hi⟩

set_option maxHeartbeats 4000000 in
set_option maxRecDepth 100000 in
theorem refGet_not {w : World} {s : ByteArray} (hs : s.size ≤ 1000000) (hS : isSeal s = false) : Calls Tryd.prog 37 #[.string s] w (RefGot w (readR s)) := by
  have hr : readR s = .error (16, 0) := by unfold readR; rw [hS]; rfl
  rw [hr]
  obtain ⟨w0, hw0⟩ : ∃ w0, w0 = (w.alloc (.cells #[.slice none 0 0, .int .u64 0] 25)).alloc (.cells #[.int .i64 0, .int .i64 0] 60) := ⟨_, rfl⟩
  have hb0 : Below w.heap.size w w0 := by rw [hw0]; exact (below_alloc w _).alloc (by simp) _
  have f0 : FstB w0 w.heap.size (.slice none 0 0) 0 := by rw [hw0]; exact (alloc_old _ _ (by simp)).trans (heap_alloc_new w _)
  have g0 : FltB w0 (w.heap.size + 1) 0 0 := by rw [hw0]; exact alloc_at _ _ (by simp)
  have QO := refOpen_any s w0 (by omega)
  rw [hS] at QO
  have Q := Lib.hid QO
  have H0 := Lib.hid (And.intro hb0 (And.intro f0 g0))
  clear QO hb0 f0 g0 hr
  go_enter Tryd.func37, Tryd.ntmps37
  go_upto_region 1 with fail
  rw [← hw0]
  clear hw0
  go_wp2_with (go_at_call 15
               (with_reducible refine Q.out.mono ?_)
               go_loud (
               rintro e' w1 ⟨rfl, hb1⟩
               have f1 := FstB.kp H0.out.2.1 (Kp.below (M := fun _ => False) hb1) (fun h => h)
               have g1 := H0.out.2.2.below hb1
               have z0 := f1.at0
               have z1 := f1.at1
               have z2 := f1.free 0
               have z3 := f1.free 1
               have z4 := g1.at0
               have z5 := g1.at1
               have z6 := flt_free g1 0
               have z7 := flt_free g1 1
               have H1 := Lib.hid (And.intro (H0.out.1.trans (hb1.mono H0.out.1.size)) (And.intro f1 g1))
               clear hb1 f1 g1))
  obtain ⟨W, hW⟩ : ∃ W, W = (((w1.setCell ⟨w.heap.size, 0, none⟩ (.slice none 0 0)).setCell ⟨w.heap.size, 1, none⟩ (.int .u64 ((0 : Nat) : Int))).setCell ⟨w.heap.size + 1, 0, none⟩ (.int .i64 16)).setCell ⟨w.heap.size + 1, 1, none⟩ (.int .i64 0) := ⟨_, rfl⟩
  obtain ⟨o1, o2, o3, o4⟩ := ref_out H1.out.2.1 H1.out.2.2 (sts_none w1) rfl hW
  rw [show ((0 : Nat) : Int) = 0 from rfl] at hW
  rw [← hW]
  clear hW
  have q1 := o1.at0
  have q2 := o1.at1
  have q3 := o2.at0
  have q4 := o2.at1
  simp [bodyPost, results, Tryd.results37, go_sem, q1, q2, q3, q4]
  exact ⟨rfl, ((Kp.below (M := fun g => w.heap.size ≤ g) H1.out.1).trans o4 (fun g e => .inl (by omega))).to (Nat.le_refl _) fun g e => e⟩

/-- How far the magic is read. -/
def magI (s : List UInt8) : Nat → IS
  | 0 => ⟨0, 0, 0⟩
  | i + 1 => magG s (magI s i) i
theorem magI_le (s : List UInt8) : ∀ i, (magI s i).a ≤ s.length
  | 0 => Nat.zero_le _
  | i + 1 => magG_le (magI_le s i) i

/-- What stands while it reads. -/
structure RI (w W : World) (q : Nat) (O : ByteArray) (x : IS) : Prop where
  inb : InB W q O x
  le : x.a ≤ O.size
  fst : FstB W w.heap.size (.slice none 0 0) 0
  flt : FltB W (w.heap.size + 1) 0 0
  below : Below w.heap.size w W
  q2 : w.heap.size + 2 ≤ q
theorem RI.next {w W W' : World} {q : Nat} {O : ByteArray} {x x' : IS} (h : RI w W q O x) (hi : InB W' q O x') (hl : x'.a ≤ O.size) (hk : Kp (fun g => g = q) W W') : RI w W' q O x' := by
  have := h.q2
  exact ⟨hi, hl, h.fst.kp hk (by omega), h.flt.kp hk (by omega), ((Kp.below (M := fun g => w.heap.size ≤ g) h.below).trans hk (fun g e => .inl (by omega))).to (Nat.le_refl _) fun g e => e, h.q2⟩
theorem RI.grow {w W W' : World} {M : Nat → Prop} {q : Nat} {O : ByteArray} {x : IS} (h : RI w W q O x) (hk : Kp M W W') (hM : ∀ g, M g → w.heap.size + 2 ≤ g ∧ g ≠ q) : RI w W' q O x :=
  ⟨h.inb.kp hk (fun e => (hM q e).2 rfl), h.le, h.fst.kp hk (fun e => by have := (hM _ e).1; omega), h.flt.kp hk (fun e => by have := (hM _ e).1; omega), ((Kp.below (M := fun g => w.heap.size ≤ g) h.below).trans hk (fun g e => .inl (by have := (hM _ e).1; omega))).to (Nat.le_refl _) fun g e => e, h.q2⟩
theorem RI.alloc {w W : World} {q : Nat} {O : ByteArray} {x : IS} (h : RI w W q O x) (o : Obj) : RI w (W.alloc o) q O x := h.grow (Kp.below (M := fun _ => False) (below_alloc W o)) (fun g e => absurd e (fun h => h))

theorem idx3 (w : World) : (Instr.index 9 (.string ⟨#[67, 83, 1]⟩) (.int .i64 0)).run Tryd.prog w = .ok (.int .u8 67) w ∧ (Instr.index 9 (.string ⟨#[67, 83, 1]⟩) (.int .i64 1)).run Tryd.prog w = .ok (.int .u8 83) w ∧ (Instr.index 9 (.string ⟨#[67, 83, 1]⟩) (.int .i64 2)).run Tryd.prog w = .ok (.int .u8 1) w := ⟨by kernel_rfl, by kernel_rfl, by kernel_rfl⟩

set_option maxHeartbeats 4000000 in
set_option maxRecDepth 100000 in
theorem refGet_is {w : World} {s O : ByteArray} (hs : s.size ≤ 1000000) (hS : isSeal s = true) (hO : opened s = O) (hOs : O.size ≤ 90000) {R : Except (Nat × Nat) (Nat × List DSt × Nat)} (hR : bodyR O.data.toList = R) : Calls Tryd.prog 37 #[.string s] w (RefGot w R) := by
  obtain ⟨L, hL⟩ : ∃ L, O.data.toList = L := ⟨_, rfl⟩
  have hLs : L.length = O.size := by rw [← hL]; rfl
  obtain ⟨w0, hw0⟩ : ∃ w0, w0 = (w.alloc (.cells #[.slice none 0 0, .int .u64 0] 25)).alloc (.cells #[.int .i64 0, .int .i64 0] 60) := ⟨_, rfl⟩
  have hb0 : Below w.heap.size w w0 := by rw [hw0]; exact (below_alloc w _).alloc (by simp) _
  have f0 : FstB w0 w.heap.size (.slice none 0 0) 0 := by rw [hw0]; exact (alloc_old _ _ (by simp)).trans (heap_alloc_new w _)
  have g0 : FltB w0 (w.heap.size + 1) 0 0 := by rw [hw0]; exact alloc_at _ _ (by simp)
  have hz0 : w0.heap.size = w.heap.size + 2 := by rw [hw0]; simp
  have QO := refOpen_any s w0 (by omega)
  rw [hS, hO] at QO
  have Q := Lib.hid QO
  have H0 := Lib.hid (And.intro hb0 (And.intro f0 (And.intro g0 hz0)))
  have HLS := Lib.hid (And.intro hLs (And.intro hL (And.intro hOs hR)))
  clear QO hb0 f0 g0 hz0 hLs hL hR hO hS
  go_enter Tryd.func37, Tryd.ntmps37
  go_upto_region 1 with fail
  rw [← hw0]
  clear hw0
  go_wp2_with (go_at_call 15
               (with_reducible refine Q.out.mono ?_)
               go_loud (
               rintro e' w1 ⟨rfl, hb1⟩
               have h1 : RI w (w1.alloc (.cells #[.string O, .int .i64 0, .int .i64 0, .int .i64 0] 109)) w1.heap.size O ⟨0, 0, 0⟩ := by
                 have hb2 := hb1.trans ((below_alloc w1 (.cells #[.string O, .int .i64 0, .int .i64 0, .int .i64 0] 109)).mono hb1.size)
                 exact ⟨heap_alloc_new w1 _, Nat.zero_le _, FstB.kp H0.out.2.1 (Kp.below (M := fun _ => False) hb2) (fun h => h), H0.out.2.2.1.below hb2, H0.out.1.trans (hb2.mono H0.out.1.size), by rw [← H0.out.2.2.2]; exact hb1.size⟩
               have HI1 := Lib.hid h1
               clear h1 hb1))
  go_loopw [8] (fun s8 W => ∃ i : Nat, i ≤ 3 ∧ s8 = .int .i64 i ∧ Hid (RI w W w1.heap.size O (magI L i))) (fun s8 _ => 3 - (intOf s8).toNat)
  case atStart => exact ⟨0, by omega, rfl, HI1⟩
  case round =>
    obtain ⟨i, hi, rfl, HM⟩ := hrel
    obtain ⟨x, hx⟩ : ∃ x, magI L i = x := ⟨_, rfl⟩
    rw [hx] at HM
    have HX := Lib.hid hx
    clear hx
    by_cases hlt : i < 3
    · have QC := Lib.hid (char_any HM.out.inb (by have := HLS.out.2.2.1; omega) (by have := HM.out.le; have := HLS.out.2.2.1; omega))
      rw [HLS.out.2.1] at QC
      obtain ⟨b, hb⟩ : ∃ b, (x.char L).1 = b := ⟨_, rfl⟩
      obtain ⟨y, hy⟩ : ∃ y, (x.char L).2 = y := ⟨_, rfl⟩
      rw [hb, hy] at QC
      have hyl : y.a ≤ O.size := by
        rw [← hy, ← HLS.out.1]
        exact IS.char_le (by rw [HLS.out.1]; exact HM.out.le)
      have HY := Lib.hid (And.intro hb (And.intro hy hyl))
      clear hb hy hyl
      rcases (show i = 0 ∨ i = 1 ∨ i = 2 by omega) with rfl | rfl | rfl
      · rw [show ((0 : Nat) : Int) = 0 from rfl]
        have tix := fun W => (idx3 W).1
        by_cases hbm : b = 67
        · subst hbm
          have hmg : magI L 1 = y := by
            show magG L (magI L 0) 0 = y
            rw [HX.out]
            unfold magG
            rw [if_pos (by rw [HY.out.1]; rfl), HY.out.2.1]
          have HG := Lib.hid hmg
          clear hmg
          go_wp2_with (go_at_call 55
                       (with_reducible refine QC.out.mono ?_)
                       go_loud (
                       rintro e' w3 ⟨rfl, hi3, hk3⟩
                       have HM3 := Lib.hid (HM.out.next hi3 HY.out.2.2 hk3)
                       clear hi3 hk3))
          exact ⟨⟨1, by omega, by first | rfl | go_num, Lib.hid (by rw [HG.out]; exact HM3.out)⟩, by simp [intOf]⟩
        · have dne : ((b : Int) == 67) = false := by rw [beq_eq_false_iff_ne]; omega
          have hmg : magI L 1 = y.fail 6 0 := by
            show magG L (magI L 0) 0 = _
            rw [HX.out]
            unfold magG
            rw [if_neg (by rw [HY.out.1]; exact hbm), HY.out.2.1]
          have HG := Lib.hid (And.intro hmg (show (y.fail 6 0).a ≤ O.size by unfold IS.fail; split <;> exact HY.out.2.2))
          clear hmg hbm
          go_wp2_with (first
            | (go_at_call 55
               (with_reducible refine QC.out.mono ?_)
               go_loud (
               rintro e' w3 ⟨rfl, hi3, hk3⟩
               have HM3 := Lib.hid (HM.out.next hi3 HY.out.2.2 hk3)
               have QF := Lib.hid (fail_any (ci := 6) (pi := 0) (c := 6) (p := 0) hi3 rfl rfl)
               clear hi3 hk3))
            | (go_at_call 56
               (with_reducible refine QF.out.mono ?_)
               go_loud (
               rintro e' w4 ⟨rfl, hi4, hk4⟩
               have HM4 := Lib.hid (HM3.out.next hi4 HG.out.2 hk4)
               clear hi4 hk4)))
          exact ⟨⟨1, by omega, by first | rfl | go_num, Lib.hid (by rw [HG.out.1]; exact HM4.out)⟩, by simp [intOf]⟩
      · rw [show ((1 : Nat) : Int) = 1 from rfl]
        have tix := fun W => (idx3 W).2.1
        by_cases hbm : b = 83
        · subst hbm
          have hmg : magI L 2 = y := by
            show magG L (magI L 1) 1 = y
            rw [HX.out]
            unfold magG
            rw [if_pos (by rw [HY.out.1]; rfl), HY.out.2.1]
          have HG := Lib.hid hmg
          clear hmg
          go_wp2_with (go_at_call 55
                       (with_reducible refine QC.out.mono ?_)
                       go_loud (
                       rintro e' w3 ⟨rfl, hi3, hk3⟩
                       have HM3 := Lib.hid (HM.out.next hi3 HY.out.2.2 hk3)
                       clear hi3 hk3))
          exact ⟨⟨2, by omega, by first | rfl | go_num, Lib.hid (by rw [HG.out]; exact HM3.out)⟩, by simp [intOf]⟩
        · have dne : ((b : Int) == 83) = false := by rw [beq_eq_false_iff_ne]; omega
          have hmg : magI L 2 = y.fail 6 1 := by
            show magG L (magI L 1) 1 = _
            rw [HX.out]
            unfold magG
            rw [if_neg (by rw [HY.out.1]; exact hbm), HY.out.2.1]
          have HG := Lib.hid (And.intro hmg (show (y.fail 6 1).a ≤ O.size by unfold IS.fail; split <;> exact HY.out.2.2))
          clear hmg hbm
          go_wp2_with (first
            | (go_at_call 55
               (with_reducible refine QC.out.mono ?_)
               go_loud (
               rintro e' w3 ⟨rfl, hi3, hk3⟩
               have HM3 := Lib.hid (HM.out.next hi3 HY.out.2.2 hk3)
               have QF := Lib.hid (fail_any (ci := 6) (pi := 1) (c := 6) (p := 1) hi3 rfl rfl)
               clear hi3 hk3))
            | (go_at_call 56
               (with_reducible refine QF.out.mono ?_)
               go_loud (
               rintro e' w4 ⟨rfl, hi4, hk4⟩
               have HM4 := Lib.hid (HM3.out.next hi4 HG.out.2 hk4)
               clear hi4 hk4)))
          exact ⟨⟨2, by omega, by first | rfl | go_num, Lib.hid (by rw [HG.out.1]; exact HM4.out)⟩, by simp [intOf]⟩
      · rw [show ((2 : Nat) : Int) = 2 from rfl]
        have tix := fun W => (idx3 W).2.2
        by_cases hbm : b = 1
        · subst hbm
          have hmg : magI L 3 = y := by
            show magG L (magI L 2) 2 = y
            rw [HX.out]
            unfold magG
            rw [if_pos (by rw [HY.out.1]; rfl), HY.out.2.1]
          have HG := Lib.hid hmg
          clear hmg
          go_wp2_with (go_at_call 55
                       (with_reducible refine QC.out.mono ?_)
                       go_loud (
                       rintro e' w3 ⟨rfl, hi3, hk3⟩
                       have HM3 := Lib.hid (HM.out.next hi3 HY.out.2.2 hk3)
                       clear hi3 hk3))
          exact ⟨⟨3, by omega, by first | rfl | go_num, Lib.hid (by rw [HG.out]; exact HM3.out)⟩, by simp [intOf]⟩
        · have dne : ((b : Int) == 1) = false := by rw [beq_eq_false_iff_ne]; omega
          have hmg : magI L 3 = y.fail 6 2 := by
            show magG L (magI L 2) 2 = _
            rw [HX.out]
            unfold magG
            rw [if_neg (by rw [HY.out.1]; exact hbm), HY.out.2.1]
          have HG := Lib.hid (And.intro hmg (show (y.fail 6 2).a ≤ O.size by unfold IS.fail; split <;> exact HY.out.2.2))
          clear hmg hbm
          go_wp2_with (first
            | (go_at_call 55
               (with_reducible refine QC.out.mono ?_)
               go_loud (
               rintro e' w3 ⟨rfl, hi3, hk3⟩
               have HM3 := Lib.hid (HM.out.next hi3 HY.out.2.2 hk3)
               have QF := Lib.hid (fail_any (ci := 6) (pi := 2) (c := 6) (p := 2) hi3 rfl rfl)
               clear hi3 hk3))
            | (go_at_call 56
               (with_reducible refine QF.out.mono ?_)
               go_loud (
               rintro e' w4 ⟨rfl, hi4, hk4⟩
               have HM4 := Lib.hid (HM3.out.next hi4 HG.out.2 hk4)
               clear hi4 hk4)))
          exact ⟨⟨3, by omega, by first | rfl | go_num, Lib.hid (by rw [HG.out.1]; exact HM4.out)⟩, by simp [intOf]⟩
    · have hi3 : i = 3 := by omega
      subst hi3
      have hxm : magX L = x := HX.out
      obtain ⟨n, hn⟩ : ∃ n, (x.num L 0 100000).1 = n := ⟨_, rfl⟩
      obtain ⟨x4, hx4⟩ : ∃ x4, (x.num L 0 100000).2 = x4 := ⟨_, rfl⟩
      obtain ⟨m, hm⟩ : ∃ m, (x4.num L 1 top64).1 = m := ⟨_, rfl⟩
      obtain ⟨x5, hx5⟩ : ∃ x5, (x4.num L 1 top64).2 = x5 := ⟨_, rfl⟩
      have hOL := HLS.out.1
      have hxl : x.a ≤ L.length := by rw [hOL]; exact HM.out.le
      have h4l : x4.a ≤ O.size := by rw [← hx4, ← hOL]; exact (IS.num_le hxl _ _).1
      have h5l : x5.a ≤ O.size := by rw [← hx5, ← hOL]; exact (IS.num_le (by rw [hOL]; exact h4l) _ _).1
      have hn1 : n ≤ 100000 := by rw [← hn]; exact (IS.num_hi (by decide)).1
      have hm1 : m < 18446744073709551616 := by rw [← hm]; exact (IS.num_hi (by decide)).2
      have hent : entX L = (n, x4) := by unfold entX; rw [hxm, ← hn, ← hx4]
      have hnum : numX L = (m, x5) := by unfold numX; rw [hent, ← hm, ← hx5]
      have QN1 := num_any (li := 0) (hi' := 100000) (lo := 0) (hi := 100000) HM.out.inb (by have := HLS.out.2.2.1; omega) (by decide) (by decide) rfl rfl
      rw [HLS.out.2.1, hn, hx4] at QN1
      have QN1 := Lib.hid QN1
      have HE := Lib.hid (And.intro hent (And.intro hnum (And.intro h4l (And.intro h5l (And.intro hm hx5)))))
      clear hxm hn hx4 hm hx5 hOL hxl h4l h5l hent hnum
      have d3 : decide ((3 : Int) < 3) = false := by decide
      go_wp2_with (first
        | (go_at_call 57
           (with_reducible refine QN1.out.mono ?_)
           go_loud (
           rintro e' w3 ⟨rfl, hi3, hk3⟩
           have HM3 := Lib.hid (HM.out.next hi3 HE.out.2.2.1 hk3)
           have QN2 := num_any (li := 1) (hi' := 18446744073709551615) (lo := 1) (hi := top64) hi3 (by have := HLS.out.2.2.1; omega) (by decide) (by decide) rfl rfl
           rw [HLS.out.2.1, HE.out.2.2.2.2.1, HE.out.2.2.2.2.2] at QN2
           have QN2 := Lib.hid QN2
           clear hi3 hk3))
        | (go_at_call 57
           (with_reducible refine QN2.out.mono ?_)
           go_loud (
           rintro e' w4 ⟨rfl, hi4, hk4⟩
           have HM4 := Lib.hid ((HM3.out.next hi4 HE.out.2.2.2.1 hk4).alloc (.cells #[.slice none 0 0, .int .u64 0] 25))
           have HF4 := Lib.hid (show FstB (w4.alloc (.cells #[.slice none 0 0, .int .u64 0] 25)) w4.heap.size (.slice none 0 0) 0 from heap_alloc_new w4 _)
           have HQ4 := Lib.hid hi4.lt
           clear hi4 hk4)))
      obtain ⟨W5, hW5⟩ : ∃ W5, W5 = w4.alloc (.cells #[.slice none 0 0, .int .u64 0] 25) := ⟨_, rfl⟩
      obtain ⟨g, hg⟩ : ∃ g, g = w4.heap.size := ⟨_, rfl⟩
      have hqg : w1.heap.size < g := by rw [hg]; exact HQ4.out
      have hgl : g < W5.heap.size := by rw [hW5, hg]; simp
      rw [← hW5, ← hg] at HF4
      rw [← hW5] at HM4
      rw [← hW5, ← hg]
      have hwg : w.heap.size + 2 ≤ w1.heap.size := HM4.out.q2
      clear hW5 hg
      go_loopw [14] (fun s14 W => ∃ (k : Nat) (x : IS) (xs : List (Value × DSt)) (ar : Option Addr) (cr : Nat), k ≤ m ∧ s14 = .int .u64 k ∧ Hid (RI w W w1.heap.size O x) ∧ Hid (FstB W g (.slice ar k cr) 0) ∧ Hid (RowsI W w.heap.size (.slice ar k cr) xs ∧ xs.length = k) ∧ Hid (stsG L (m - k) k x (xs.map (·.2)) = stsX L ∧ (x.c = 0 → k ≤ x.a) ∧ k ≤ O.size + 1)) (fun s14 _ => m - (intOf s14).toNat)
      case atStart => exact ⟨0, x5, [], none, 0, Nat.zero_le _, rfl, HM4, HF4, Lib.hid ⟨⟨World.ownsRow_nil _ _ 64 3, List.forall_mem_nil _⟩, rfl⟩, Lib.hid ⟨by unfold stsX; rw [HE.out.2.1]; rfl, fun _ => Nat.zero_le _, Nat.zero_le _⟩⟩
      case round =>
        obtain ⟨k, x, xs, ar, cr, hk, rfl, HRI, HF, HRW, HSG⟩ := hrel
        have c2 := HRI.out.inb.at2
        by_cases hgo : k < m ∧ x.c = 0
        · obtain ⟨hkm, hxc⟩ := hgo
          rw [hxc] at c2
          have c2' : wr.cell? ⟨w1.heap.size, 2, none⟩ = some (.int .i64 0) := c2
          have d1 : decide ((k : Int) < (m : Int)) = true := by simp; omega
          have d11 : decide (k < m) = true := by simp; omega
          obtain ⟨t, ht⟩ : ∃ t, (x.num L 0 513).1 = t := ⟨_, rfl⟩
          obtain ⟨x1, hx1⟩ : ∃ x1, (x.num L 0 513).2 = x1 := ⟨_, rfl⟩
          have ht513 : t ≤ 513 := by rw [← ht]; exact (IS.num_hi (by decide)).1
          have hxl : x.a ≤ L.length := by rw [HLS.out.1]; exact HRI.out.le
          have h1l : x1.a ≤ O.size := by rw [← hx1, ← HLS.out.1]; exact (IS.num_le hxl _ _).1
          have hkO : k ≤ O.size := by have := HSG.out.2.1 hxc; have := HRI.out.le; omega
          have QN3 := num_any (li := 0) (hi' := 513) (lo := 0) (hi := 513) HRI.out.inb (by have := HLS.out.2.2.1; omega) (by decide) (by decide) rfl rfl
          rw [HLS.out.2.1, ht, hx1] at QN3
          have QN3 := Lib.hid QN3
          have HT := Lib.hid (And.intro ht (And.intro hx1 (And.intro h1l (And.intro hxl hxc))))
          clear ht hx1 h1l hxl hxc c2
          obtain ⟨wo, hwo⟩ : ∃ wo, wo = wr := ⟨_, rfl⟩
          subst hwo
          rcases Nat.mod_two_eq_zero_or_one t with ht2 | ht2
          · have hrt : (t : Int) % 2 = 0 := by omega
            have hff : (t % 2 == 1) = false := by rw [ht2]; rfl
            obtain ⟨o, ho⟩ : ∃ o : Nat, o = 0 := ⟨_, rfl⟩
            have hout : outG L false x1 = (o, x1) := by unfold outG; rw [ho]; rfl
            have HO := Lib.hid (And.intro hff (And.intro hout (And.intro HT.out.2.2.1 ho)))
            clear ht2 hff hout ho
            go_wp2_with (go_at_call 57
                         (with_reducible refine QN3.out.mono ?_)
                         go_loud (
                         rintro e' v1 ⟨rfl, hi3, hk3⟩
                         have HV := Lib.hid (And.intro (HRI.out.next hi3 HT.out.2.2.1 hk3) hk3)
                         clear hi3 hk3))
            obtain ⟨W2, hW2⟩ : ∃ W2, W2 = v1.alloc (.cells #[.slice none 0 0, .bool false, .int .u64 0] 64) := ⟨_, rfl⟩
            obtain ⟨g16, hg16⟩ : ∃ g16, g16 = v1.heap.size := ⟨_, rfl⟩
            have hs2 : StB W2 g16 (.slice none 0 0) false o := by rw [hW2, hg16, HO.out.2.2.2]; exact heap_alloc_new v1 _
            have hri2 : RI w W2 w1.heap.size O x1 := by rw [hW2]; exact HV.out.1.alloc _
            have hkp2 : Kp (fun b => b = w1.heap.size) wo W2 := by rw [hW2]; exact HV.out.2.trans (Kp.below (M := fun _ => False) (below_alloc v1 _)) (fun b e => absurd e (fun h => h))
            have hg2 : wo.heap.size ≤ g16 := by rw [hg16]; exact HV.out.2.size
            rw [← hW2, ← hg16]
            have H2 := Lib.hid (And.intro hs2 (And.intro hri2 (And.intro hkp2 hg2)))
            clear hW2 hg16 hs2 hri2 hkp2 hg2 c2' hrt
            obtain ⟨na, hna⟩ : ∃ na, t / 2 = na := ⟨_, rfl⟩
            have hq2 : (t : Int) / 2 = (na : Int) := by omega
            have HNA := Lib.hid hna
            have h256 : na ≤ 256 := by omega
            clear hna
            go_loopw [17] (fun s17 W => ∃ (j : Nat) (y : IS) (zs : List DArc) (av : Option Addr) (cv : Nat), j ≤ na ∧ s17 = .int .u64 j ∧ Hid (RI w W w1.heap.size O y) ∧ Hid (zs.length = j ∧ ARow W wo.heap.size (.slice av j cv) zs ∧ StB W g16 (.slice av j cv) false o) ∧ Hid (arcsG L k (na - j) y zs = arcsG L k na x1 []) ∧ Hid (Kp (fun b => b = w1.heap.size) wo W)) (fun s17 _ => na - (intOf s17).toNat)
            case atStart => exact ⟨0, x1, [], none, 0, Nat.zero_le _, rfl, Lib.hid H2.out.2.1, Lib.hid ⟨rfl, World.ownsRow_nil _ _ 66 3, H2.out.1⟩, Lib.hid rfl, Lib.hid H2.out.2.2.1⟩
            case round =>
              obtain ⟨j, y, zs, av, cv, hj, rfl, JI, JZ, JG, JK⟩ := hrel
              have c2 := JI.out.inb.at2
              by_cases hlj : j < na ∧ y.c = 0
              · obtain ⟨hj1, hyc⟩ := hlj
                rw [hyc] at c2
                have c2' : wr.cell? ⟨w1.heap.size, 2, none⟩ = some (.int .i64 0) := c2
                have d4 : decide ((j : Int) < (na : Int)) = true := by simp; omega
                have d44 : decide (j < na) = true := by simp; omega
                obtain ⟨b, hb⟩ : ∃ b, (y.char L).1 = b := ⟨_, rfl⟩
                obtain ⟨y1, hy1⟩ : ∃ y1, (y.char L).2 = y1 := ⟨_, rfl⟩
                obtain ⟨ou, hou⟩ : ∃ ou, (y1.num L 0 top64).1 = ou := ⟨_, rfl⟩
                obtain ⟨y2, hy2⟩ : ∃ y2, (y1.num L 0 top64).2 = y2 := ⟨_, rfl⟩
                obtain ⟨u, hu⟩ : ∃ u, (y2.num L 1 k).1 = u := ⟨_, rfl⟩
                obtain ⟨y3, hy3⟩ : ∃ y3, (y2.num L 1 k).2 = y3 := ⟨_, rfl⟩
                have hyl : y.a ≤ L.length := by rw [HLS.out.1]; exact JI.out.le
                have l1 : y1.a ≤ L.length := by rw [← hy1]; exact IS.char_le hyl
                have l2 : y2.a ≤ L.length := by rw [← hy2]; exact (IS.num_le l1 _ _).1
                have l3 : y3.a ≤ L.length := by rw [← hy3]; exact (IS.num_le l2 _ _).1
                have hk64 : k < 18446744073709551616 := by omega
                have hku : u ≤ k := by rw [← hu]; exact (IS.num_hi hk64).1
                have hag : arcG L k y = (⟨b, ou, (k : Int) - (u : Nat)⟩, y3) := by unfold arcG; rw [hb, hy1, hou, hy2, hu, hy3]
                obtain ⟨d, hd⟩ : ∃ d : Nat, k - u = d := ⟨_, rfl⟩
                have hdi : (k : Int) - (u : Int) = (d : Int) := by omega
                rw [hdi] at hag
                have hsg : arcsG L k (na - (j + 1)) y3 (zs ++ [(⟨b, ou, (d : Int)⟩ : DArc)]) = arcsG L k na x1 [] := by
                  rw [← JG.out, show na - j = (na - (j + 1)) + 1 by omega]
                  show _ = (if y.c = 0 then arcsG L k (na - (j + 1)) (arcG L k y).2 (zs ++ [(arcG L k y).1]) else (zs, y))
                  rw [if_pos hyc, hag]
                rw [HLS.out.1] at l1 l2 l3
                have QC := char_any JI.out.inb (by have := HLS.out.2.2.1; omega) (by have := JI.out.le; have := HLS.out.2.2.1; omega)
                rw [HLS.out.2.1, hb, hy1] at QC
                have QC := Lib.hid QC
                have HY := Lib.hid (And.intro l1 (And.intro l2 (And.intro l3 (And.intro hou (And.intro hy2 (And.intro hu (And.intro hy3 hsg)))))))
                clear hyc c2 hb hy1 hou hy2 hu hy3 hyl l1 l2 l3 hag hsg
                go_upto_region 28 with (first
                  | (go_at_call 55
                     (with_reducible refine QC.out.mono ?_)
                     go_loud (
                     rintro e' u1 ⟨rfl, hi3, hk3⟩
                     have HU := Lib.hid (And.intro (JI.out.next hi3 HY.out.1 hk3) (And.intro hi3 hk3))
                     have QN5 := num_any (li := 0) (hi' := 18446744073709551615) (lo := 0) (hi := top64) (hi3.below (below_alloc u1 (.cells #[.int .u8 (b : Int), .int .u64 0, .int .i64 0] 66))) (by have := HLS.out.2.2.1; omega) (by decide) (by decide) rfl rfl
                     rw [HLS.out.2.1, HY.out.2.2.2.1, HY.out.2.2.2.2.1] at QN5
                     have QN5 := Lib.hid QN5
                     have HAX := Lib.hid (show AxB (u1.alloc (.cells #[.int .u8 (b : Int), .int .u64 0, .int .i64 0] 66)) u1.heap.size b 0 0 from heap_alloc_new u1 _)
                     have hne18 : ¬ u1.heap.size = w1.heap.size := by have := hi3.lt; omega
                     clear hi3 hk3))
                  | (go_at_call 57
                     (with_reducible refine QN5.out.mono ?_)
                     go_loud (
                     rintro e' u3 ⟨rfl, hi4, hk4⟩
                     have hax := HAX.out.kp hk4 hne18
                     have y18 := hax.at1
                     have y19 := hax.free 1
                     have hks := kp_set u3 u1.heap.size 1 (.int .u64 (ou : Int))
                     have hi5 := hi4.kp hks (fun e => hne18 e.symm)
                     have HU3 := Lib.hid (And.intro hi5 (And.intro hk4 (And.intro hks (hax.set1 ou))))
                     have QN6 := num_any (li := 1) (hi' := (k : Int)) (lo := 1) (hi := k) hi5 (by have := HLS.out.2.2.1; omega) (by decide) hk64 rfl rfl
                     rw [HLS.out.2.1, HY.out.2.2.2.2.2.1, HY.out.2.2.2.2.2.2.1] at QN6
                     have QN6 := Lib.hid QN6
                     clear hi4 hk4 hax hks hi5))
                  | (go_at_call 57
                     (with_reducible refine QN6.out.mono ?_)
                     go_loud (
                     rintro e' u5 ⟨rfl, hi6, hk6⟩
                     have hax := HU3.out.2.2.2.kp hk6 hne18
                     have y28 := hax.at2
                     have y29 := hax.free 2
                     have HU5 := Lib.hid (And.intro hi6 (And.intro hk6 hax))
                     clear hi6 hk6 hax)))
                obtain ⟨p, hp⟩ : ∃ p, p = u1.heap.size := ⟨_, rfl⟩
                obtain ⟨W6, hW6⟩ : ∃ W6, W6 = u5.setCell ⟨u1.heap.size, 2, none⟩ (.int .i64 (d : Int)) := ⟨_, rfl⟩
                have hks := kp_set u5 u1.heap.size 2 (.int .i64 (d : Int))
                have hpw : wo.heap.size ≤ p := by rw [hp]; have := JK.out.size; have := HU.out.2.2.size; omega
                have hax6 : AxB W6 p b ou (d : Int) := by rw [hW6, hp]; exact HU5.out.2.2.set2 _
                have hk3 : Kp (fun g => g = w1.heap.size) wr (u1.alloc (.cells #[.int .u8 (b : Int), .int .u64 0, .int .i64 0] 66)) := HU.out.2.2.trans (Kp.below (M := fun _ => False) (below_alloc u1 _)) (fun b e => absurd e (fun h => h))
                have hkw : Kp (fun g => g = w1.heap.size) wr W6 := by
                  have hsz := HU.out.2.2.size
                  rw [hW6]
                  exact (((hk3.trans HU3.out.2.1 (fun b e => .inl e)).trans HU3.out.2.2.1 (fun b e => .inr (by omega))).trans HU5.out.2.1 (fun b e => .inl e)).trans hks (fun b e => .inr (by omega))
                have hin6 : InB W6 w1.heap.size O y3 := by rw [hW6]; exact HU5.out.1.kp hks (fun e => hne18 e.symm)
                have hri6 := JI.out.next hin6 HY.out.2.2.1 hkw
                have hst6 : StB W6 g16 (.slice av j cv) false o := JZ.out.2.2.kp hkw (fun e => by have := HRI.out.inb.lt; have := H2.out.2.2.2; omega)
                have har6 := in_arow JZ.out.2.1 JI.out.inb hkw
                have hkk6 := JK.out.trans hkw (fun b e => .inl e)
                rw [← hW6, ← hp]
                have y0 := hst6.at0
                have x0 := hax6.at0
                have x1' := hax6.at1
                have x2' := hax6.at2
                have har6' := har6
                unfold ARow at har6'
                rw [JZ.out.1] at har6'
                have HW := Lib.hid (And.intro (show (W6.alloc (.cells #[.int .u8 (b : Int), .int .u64 (ou : Int), .int .i64 (d : Int)] 66)).heap[W6.heap.size]? = some (.cells #[.int .u8 (b : Int), .int .u64 (ou : Int), .int .i64 (d : Int)] 66 (0, 0)) from heap_alloc_new W6 _) (And.intro har6' (And.intro (show j ≤ 100000 by omega) (And.intro (show wo.heap.size ≤ W6.heap.size from hkk6.size)
                  (And.intro (show ∀ u ∈ [Value.int .u8 (b : Int), .int .u64 (ou : Int), .int .i64 (d : Int)], u.oneCell' = true by intro u hu; simp at hu; rcases hu with rfl | rfl | rfl <;> rfl) (And.intro (st_apart hst6 har6) (And.intro hst6.at0 (And.intro (hst6.free 0) hst6.lt))))))))
                have HNX := Lib.hid (And.intro hst6 (And.intro har6 (And.intro hri6 hkk6)))
                clear hW6 hp hks hpw hax6 hk3 hkw hin6 hri6 hst6 har6 har6' hkk6 y18 y19 y28 y29 hne18 c2' 
                go_wp2_with (at_builtin
                             go_loud (refine wpList_append_row (w2 := W6) (vs := .slice av j cv) rfl (.tmp 104) (.tmp 106) rfl rfl Tryd.underlying62 iArc rfl (by decide) wo.heap.size g16 0 (.slice av j cv) j (arcsC zs) [.int .u8 (b : Int), .int .u64 (ou : Int), .int .i64 (d : Int)] W6.heap.size rfl rfl HW.out.1 (below_alloc _ _) HW.out.2.1 HW.out.2.2.1 HW.out.2.2.2.1 rfl HW.out.2.2.2.2.1 HW.out.2.2.2.2.2.1 HW.out.2.2.2.2.2.2.1 HW.out.2.2.2.2.2.2.2.1 HW.out.2.2.2.2.2.2.2.2 ?_)
                             intro a5 n5 c5 w5 hA5 r1 r2
                             have HA5 := Lib.hid hA5
                             clear hA5 y0)
                obtain ⟨n1, n2, n3⟩ := arow_next (y := ⟨b, ou, (d : Int)⟩) (v5 := .slice a5 n5 c5) HNX.out.1 HNX.out.2.1 (by rw [JZ.out.1]; exact HA5.out)
                obtain ⟨ar', cr', e⟩ := n2.form'
                injection e with i1 i2 i3
                subst i1 i2 i3
                have hlen : (zs ++ [(⟨b, ou, (d : Int)⟩ : DArc)]).length = j + 1 := by simp [JZ.out.1]
                rw [hlen] at n1 n2 n3 ⊢
                have hbig : ∀ g, (Value.slice av j cv).ownBlock = some g ∨ g = g16 → wo.heap.size ≤ g := fun g e => by
                  rcases e with e | e
                  · exact (HNX.out.2.1.lt g e).1
                  · rw [e]; exact H2.out.2.2.2
                exact ⟨⟨j + 1, y3, zs ++ [(⟨b, ou, (d : Int)⟩ : DArc)], a5, c5, by omega, by go_num, Lib.hid (HNX.out.2.2.1.grow n3 fun g e => by
                  have h1 := hbig g e
                  have h2 := HRI.out.inb.lt
                  have h3 := HRI.out.q2
                  exact ⟨by omega, by omega⟩), Lib.hid ⟨hlen, n2, n1⟩, Lib.hid HY.out.2.2.2.2.2.2.2, Lib.hid (HNX.out.2.2.2.trans n3 fun g e => .inr (hbig g e))⟩, by simp [intOf]; omega⟩
              · have hst : arcsG L k na x1 [] = (zs, y) := by
                  rw [← JG.out]
                  by_cases hj0 : na - j = 0
                  · rw [hj0]; rfl
                  · exact arcsG_bad (fun e => hlj ⟨by omega, e⟩) _ _
                have hsg : stG L k x = (⟨zs, false, o⟩, y) := by
                  unfold stG
                  rw [HT.out.1, HT.out.2.1, HO.out.1, HO.out.2.1, HNA.out, hst]
                have i0 := FstB.kp HF.out JK.out (by omega)
                have r0 := in_rows HRW.out.1 HRI.out.inb JK.out
                have y0 := JZ.out.2.2.at0
                have y1 := JZ.out.2.2.at1
                have y2 := JZ.out.2.2.at2
                have i11 := i0.at0
                have hr0 := r0.1
                unfold SRow at hr0
                rw [HRW.out.2] at hr0
                have hwow : w.heap.size ≤ wo.heap.size := HRI.out.below.size
                have hya : ARow wr w.heap.size (.slice av j cv) zs := owns_base JZ.out.2.1 hwow
                have HW := Lib.hid (And.intro (show (wr.alloc (.cells #[.slice av j cv, .bool false, .int .u64 (o : Int)] 64)).heap[wr.heap.size]? = some (.cells #[.slice av j cv, .bool false, .int .u64 (o : Int)] 64 (0, 0)) from heap_alloc_new wr _) (And.intro hr0 (And.intro (show k ≤ 100000 by have := HLS.out.2.2.1; omega) (And.intro (show w.heap.size ≤ wr.heap.size from JI.out.below.size)
                  (And.intro (show ∀ u ∈ [Value.slice av j cv, .bool false, .int .u64 (o : Int)], u.oneCell' = true by intro u hu; simp at hu; rcases hu with rfl | rfl | rfl <;> rfl) (And.intro (fst_apart i0 r0.1) (And.intro i0.at0 (And.intro (i0.free 0) i0.lt))))))))
                have hend : Hid (∀ a5 n5 c5 w5, Appd wr w.heap.size 64 (.slice ar k cr) (k + 1) (stsC xs ++ [.slice av j cv, .bool false, .int .u64 (o : Int)]) g 0 (.slice ar k cr) (.slice a5 n5 c5) w5 →
                    n5 = k + 1 ∧ Hid (RI w (w5.setCell ⟨g, 0, none⟩ (.slice a5 (k + 1) c5)) w1.heap.size O y) ∧ Hid (FstB (w5.setCell ⟨g, 0, none⟩ (.slice a5 (k + 1) c5)) g (.slice a5 (k + 1) c5) 0) ∧
                    Hid (RowsI (w5.setCell ⟨g, 0, none⟩ (.slice a5 (k + 1) c5)) w.heap.size (.slice a5 (k + 1) c5) (xs ++ [((.slice av j cv, ⟨zs, false, o⟩) : Value × DSt)]) ∧ (xs ++ [((.slice av j cv, ⟨zs, false, o⟩) : Value × DSt)]).length = k + 1) ∧
                    Hid (stsG L (m - (k + 1)) (k + 1) y ((xs ++ [((.slice av j cv, ⟨zs, false, o⟩) : Value × DSt)]).map (·.2)) = stsX L ∧ (y.c = 0 → k + 1 ≤ y.a) ∧ k + 1 ≤ O.size + 1)) := Lib.hid fun a5 n5 c5 w5 hA => by
                  obtain ⟨n1, n2, n3⟩ := rowsI_next (y := (.slice av j cv, ⟨zs, false, o⟩)) (v5 := .slice a5 n5 c5) i0 r0 hya (by omega) (by rw [HRW.out.2]; exact hA)
                  obtain ⟨ar', cr', e⟩ := n2.1.form
                  injection e with i1 i2 i3
                  subst i1 i2 i3
                  have hlen : (xs ++ [((.slice av j cv, ⟨zs, false, o⟩) : Value × DSt)]).length = k + 1 := by simp [HRW.out.2]
                  rw [hlen] at n1 n2 n3 ⊢
                  refine ⟨rfl, Lib.hid ?_, Lib.hid n1, Lib.hid ⟨n2, rfl⟩, Lib.hid ⟨?_, fun hy => ?_, by omega⟩⟩
                  · refine JI.out.grow n3 fun b e => ?_
                    rcases e with e | e
                    · obtain ⟨h1, cs, fz, hc⟩ := owns_cells r0.1 b e
                      have g1 : wr.heap[w.heap.size]? = some _ := JI.out.fst
                      have g2 : wr.heap[w.heap.size + 1]? = some _ := JI.out.flt
                      have g3 : wr.heap[w1.heap.size]? = some _ := JI.out.inb
                      refine ⟨?_, fun e2 => by subst e2; rw [g3] at hc; cases hc⟩
                      rcases (show b = w.heap.size ∨ b = w.heap.size + 1 ∨ w.heap.size + 2 ≤ b by omega) with e2 | e2 | e2
                      · subst e2; rw [g1] at hc; cases hc
                      · subst e2; rw [g2] at hc; cases hc
                      · exact e2
                    · rw [e]; exact ⟨by omega, by omega⟩
                  · rw [← HSG.out.1, show m - k = (m - (k + 1)) + 1 by omega, List.map_append]
                    show _ = (if x.c = 0 then stsG L (m - (k + 1)) (k + 1) (stG L k x).2 (xs.map (·.2) ++ [(stG L k x).1]) else (xs.map (·.2), x))
                    rw [if_pos HT.out.2.2.2.2, hsg]
                    rfl
                  · have h1 := stG_lt (own := k) HT.out.2.2.2.1 HT.out.2.2.2.2 (by rw [hsg]; exact hy)
                    rw [hsg] at h1
                    have h2 := HSG.out.2.1 HT.out.2.2.2.2
                    exact Nat.lt_of_le_of_lt h2 h1
                clear i0 r0 hr0 hya hst hsg
                have hdd : decide ((j : Int) < (na : Int)) = false ∧ decide (j < na) = false ∨ (decide ((j : Int) < (na : Int)) = true ∧ decide (j < na) = true ∧ ((y.c : Int) == 0) = false) := by
                  rcases Nat.lt_or_ge j na with h | h
                  · exact .inr ⟨by simp; omega, by simp; omega, y.c_dec (fun e => hlj ⟨h, e⟩)⟩
                  · exact .inl ⟨by simp; omega, by simp; omega⟩
                clear hlj
                rcases hdd with ⟨d4, d6⟩ | ⟨d4, d6, d7⟩
                all_goals (
                  go_wp2_with (at_builtin
                               go_loud (refine wpList_append_row (w2 := wr) (vs := .slice ar k cr) rfl (.tmp 110) (.tmp 112) rfl rfl Tryd.underlying22 iState rfl (by decide) w.heap.size g 0 (.slice ar k cr) k (stsC xs) [.slice av j cv, .bool false, .int .u64 (o : Int)] wr.heap.size rfl rfl HW.out.1 (below_alloc _ _) HW.out.2.1 HW.out.2.2.1 HW.out.2.2.2.1 rfl HW.out.2.2.2.2.1 HW.out.2.2.2.2.2.1 HW.out.2.2.2.2.2.2.1 HW.out.2.2.2.2.2.2.2.1 HW.out.2.2.2.2.2.2.2.2 ?_)
                               intro a5 n5 c5 w5 hA5 r1 r2
                               obtain ⟨rfl, hz⟩ := hend.out _ _ _ _ hA5
                               have HZ := Lib.hid hz
                               clear hA5 hz i11)
                  exact ⟨⟨k + 1, y, _, a5, c5, by omega, by go_num, HZ.out.1, HZ.out.2.1, HZ.out.2.2.1, HZ.out.2.2.2⟩, by simp [intOf]; omega⟩)
          · have hrt : (t : Int) % 2 = 1 := by omega
            have hff : (t % 2 == 1) = true := by rw [ht2]; rfl
            obtain ⟨o, ho⟩ : ∃ o, (x1.num L 0 top64).1 = o := ⟨_, rfl⟩
            obtain ⟨x2, hx2⟩ : ∃ x2, (x1.num L 0 top64).2 = x2 := ⟨_, rfl⟩
            have h2l : x2.a ≤ O.size := by rw [← hx2, ← HLS.out.1]; exact (IS.num_le (by rw [HLS.out.1]; exact HT.out.2.2.1) _ _).1
            have hout : outG L true x1 = (o, x2) := by unfold outG; rw [← ho, ← hx2]; rfl
            have HO := Lib.hid (And.intro hff (And.intro hout (And.intro h2l (And.intro ho hx2))))
            clear ht2 hff hout ho hx2 h2l
            go_wp2_with (first
              | (go_at_call 57
                 (with_reducible refine QN3.out.mono ?_)
                 go_loud (
                 rintro e' v1 ⟨rfl, hi3, hk3⟩
                 have HV := Lib.hid (And.intro (HRI.out.next hi3 HT.out.2.2.1 hk3) hk3)
                 have QN4 := num_any (li := 0) (hi' := 18446744073709551615) (lo := 0) (hi := top64) (hi3.below (below_alloc v1 (.cells #[.slice none 0 0, .bool true, .int .u64 0] 64))) (by have := HLS.out.2.2.1; omega) (by decide) (by decide) rfl rfl
                 rw [HLS.out.2.1, HO.out.2.2.2.1, HO.out.2.2.2.2] at QN4
                 have QN4 := Lib.hid QN4
                 have hne16 : ¬ v1.heap.size = w1.heap.size := by have := hi3.lt; omega
                 clear hi3 hk3))
              | (go_at_call 57
                 (with_reducible refine QN4.out.mono ?_)
                 go_loud (
                 rintro e' v2 ⟨rfl, hi4, hk4⟩
                 have hst : StB v2 v1.heap.size (.slice none 0 0) true 0 := (show StB (v1.alloc (.cells #[.slice none 0 0, .bool true, .int .u64 0] 64)) v1.heap.size (.slice none 0 0) true 0 from heap_alloc_new v1 _).kp hk4 (by omega)
                 have z0 := hst.at2
                 have z1 := hst.free 2
                 have HV2 := Lib.hid (And.intro ((HV.out.1.alloc (.cells #[.slice none 0 0, .bool true, .int .u64 0] 64)).next hi4 HO.out.2.2.1 hk4) (And.intro ((HV.out.2.trans (Kp.below (M := fun _ => False) (below_alloc v1 (.cells #[.slice none 0 0, .bool true, .int .u64 0] 64))) (fun b e => absurd e (fun h => h))).trans hk4 (fun b e => .inl e)) hst))
                 clear hi4 hk4 hst)))
            obtain ⟨W2, hW2⟩ : ∃ W2, W2 = v2.setCell ⟨v1.heap.size, 2, none⟩ (.int .u64 (o : Int)) := ⟨_, rfl⟩
            obtain ⟨g16, hg16⟩ : ∃ g16, g16 = v1.heap.size := ⟨_, rfl⟩
            have hks := kp_set v2 v1.heap.size 2 (.int .u64 (o : Int))
            have hs2 : StB W2 g16 (.slice none 0 0) true o := by rw [hW2, hg16]; exact HV2.out.2.2.set2 o
            have hv1w : wo.heap.size ≤ v1.heap.size := HV.out.2.size
            have hri2 : RI w W2 w1.heap.size O x2 := by
              rw [hW2]
              exact HV2.out.1.grow hks (fun b e => by
                have h1 := HV.out.1.inb.lt
                have h2 := HV.out.1.q2
                rw [e]
                exact ⟨by omega, by omega⟩)
            have hkp2 : Kp (fun b => b = w1.heap.size) wo W2 := by rw [hW2]; exact HV2.out.2.1.trans hks (fun b e => .inr (by omega))
            have hg2 : wo.heap.size ≤ g16 := by rw [hg16]; exact hv1w
            rw [← hW2, ← hg16]
            have H2 := Lib.hid (And.intro hs2 (And.intro hri2 (And.intro hkp2 hg2)))
            clear hW2 hg16 hs2 hri2 hkp2 hg2 c2' hrt hks hv1w hne16 z0 z1
            obtain ⟨na, hna⟩ : ∃ na, t / 2 = na := ⟨_, rfl⟩
            have hq2 : (t : Int) / 2 = (na : Int) := by omega
            have HNA := Lib.hid hna
            have h256 : na ≤ 256 := by omega
            clear hna
            go_loopw [17] (fun s17 W => ∃ (j : Nat) (y : IS) (zs : List DArc) (av : Option Addr) (cv : Nat), j ≤ na ∧ s17 = .int .u64 j ∧ Hid (RI w W w1.heap.size O y) ∧ Hid (zs.length = j ∧ ARow W wo.heap.size (.slice av j cv) zs ∧ StB W g16 (.slice av j cv) true o) ∧ Hid (arcsG L k (na - j) y zs = arcsG L k na x2 []) ∧ Hid (Kp (fun b => b = w1.heap.size) wo W)) (fun s17 _ => na - (intOf s17).toNat)
            case atStart => exact ⟨0, x2, [], none, 0, Nat.zero_le _, rfl, Lib.hid H2.out.2.1, Lib.hid ⟨rfl, World.ownsRow_nil _ _ 66 3, H2.out.1⟩, Lib.hid rfl, Lib.hid H2.out.2.2.1⟩
            case round =>
              obtain ⟨j, y, zs, av, cv, hj, rfl, JI, JZ, JG, JK⟩ := hrel
              have c2 := JI.out.inb.at2
              by_cases hlj : j < na ∧ y.c = 0
              · obtain ⟨hj1, hyc⟩ := hlj
                rw [hyc] at c2
                have c2' : wr.cell? ⟨w1.heap.size, 2, none⟩ = some (.int .i64 0) := c2
                have d4 : decide ((j : Int) < (na : Int)) = true := by simp; omega
                have d44 : decide (j < na) = true := by simp; omega
                obtain ⟨b, hb⟩ : ∃ b, (y.char L).1 = b := ⟨_, rfl⟩
                obtain ⟨y1, hy1⟩ : ∃ y1, (y.char L).2 = y1 := ⟨_, rfl⟩
                obtain ⟨ou, hou⟩ : ∃ ou, (y1.num L 0 top64).1 = ou := ⟨_, rfl⟩
                obtain ⟨y2, hy2⟩ : ∃ y2, (y1.num L 0 top64).2 = y2 := ⟨_, rfl⟩
                obtain ⟨u, hu⟩ : ∃ u, (y2.num L 1 k).1 = u := ⟨_, rfl⟩
                obtain ⟨y3, hy3⟩ : ∃ y3, (y2.num L 1 k).2 = y3 := ⟨_, rfl⟩
                have hyl : y.a ≤ L.length := by rw [HLS.out.1]; exact JI.out.le
                have l1 : y1.a ≤ L.length := by rw [← hy1]; exact IS.char_le hyl
                have l2 : y2.a ≤ L.length := by rw [← hy2]; exact (IS.num_le l1 _ _).1
                have l3 : y3.a ≤ L.length := by rw [← hy3]; exact (IS.num_le l2 _ _).1
                have hk64 : k < 18446744073709551616 := by omega
                have hku : u ≤ k := by rw [← hu]; exact (IS.num_hi hk64).1
                have hag : arcG L k y = (⟨b, ou, (k : Int) - (u : Nat)⟩, y3) := by unfold arcG; rw [hb, hy1, hou, hy2, hu, hy3]
                obtain ⟨d, hd⟩ : ∃ d : Nat, k - u = d := ⟨_, rfl⟩
                have hdi : (k : Int) - (u : Int) = (d : Int) := by omega
                rw [hdi] at hag
                have hsg : arcsG L k (na - (j + 1)) y3 (zs ++ [(⟨b, ou, (d : Int)⟩ : DArc)]) = arcsG L k na x2 [] := by
                  rw [← JG.out, show na - j = (na - (j + 1)) + 1 by omega]
                  show _ = (if y.c = 0 then arcsG L k (na - (j + 1)) (arcG L k y).2 (zs ++ [(arcG L k y).1]) else (zs, y))
                  rw [if_pos hyc, hag]
                rw [HLS.out.1] at l1 l2 l3
                have QC := char_any JI.out.inb (by have := HLS.out.2.2.1; omega) (by have := JI.out.le; have := HLS.out.2.2.1; omega)
                rw [HLS.out.2.1, hb, hy1] at QC
                have QC := Lib.hid QC
                have HY := Lib.hid (And.intro l1 (And.intro l2 (And.intro l3 (And.intro hou (And.intro hy2 (And.intro hu (And.intro hy3 hsg)))))))
                clear hyc c2 hb hy1 hou hy2 hu hy3 hyl l1 l2 l3 hag hsg
                go_upto_region 28 with (first
                  | (go_at_call 55
                     (with_reducible refine QC.out.mono ?_)
                     go_loud (
                     rintro e' u1 ⟨rfl, hi3, hk3⟩
                     have HU := Lib.hid (And.intro (JI.out.next hi3 HY.out.1 hk3) (And.intro hi3 hk3))
                     have QN5 := num_any (li := 0) (hi' := 18446744073709551615) (lo := 0) (hi := top64) (hi3.below (below_alloc u1 (.cells #[.int .u8 (b : Int), .int .u64 0, .int .i64 0] 66))) (by have := HLS.out.2.2.1; omega) (by decide) (by decide) rfl rfl
                     rw [HLS.out.2.1, HY.out.2.2.2.1, HY.out.2.2.2.2.1] at QN5
                     have QN5 := Lib.hid QN5
                     have HAX := Lib.hid (show AxB (u1.alloc (.cells #[.int .u8 (b : Int), .int .u64 0, .int .i64 0] 66)) u1.heap.size b 0 0 from heap_alloc_new u1 _)
                     have hne18 : ¬ u1.heap.size = w1.heap.size := by have := hi3.lt; omega
                     clear hi3 hk3))
                  | (go_at_call 57
                     (with_reducible refine QN5.out.mono ?_)
                     go_loud (
                     rintro e' u3 ⟨rfl, hi4, hk4⟩
                     have hax := HAX.out.kp hk4 hne18
                     have y18 := hax.at1
                     have y19 := hax.free 1
                     have hks := kp_set u3 u1.heap.size 1 (.int .u64 (ou : Int))
                     have hi5 := hi4.kp hks (fun e => hne18 e.symm)
                     have HU3 := Lib.hid (And.intro hi5 (And.intro hk4 (And.intro hks (hax.set1 ou))))
                     have QN6 := num_any (li := 1) (hi' := (k : Int)) (lo := 1) (hi := k) hi5 (by have := HLS.out.2.2.1; omega) (by decide) hk64 rfl rfl
                     rw [HLS.out.2.1, HY.out.2.2.2.2.2.1, HY.out.2.2.2.2.2.2.1] at QN6
                     have QN6 := Lib.hid QN6
                     clear hi4 hk4 hax hks hi5))
                  | (go_at_call 57
                     (with_reducible refine QN6.out.mono ?_)
                     go_loud (
                     rintro e' u5 ⟨rfl, hi6, hk6⟩
                     have hax := HU3.out.2.2.2.kp hk6 hne18
                     have y28 := hax.at2
                     have y29 := hax.free 2
                     have HU5 := Lib.hid (And.intro hi6 (And.intro hk6 hax))
                     clear hi6 hk6 hax)))
                obtain ⟨p, hp⟩ : ∃ p, p = u1.heap.size := ⟨_, rfl⟩
                obtain ⟨W6, hW6⟩ : ∃ W6, W6 = u5.setCell ⟨u1.heap.size, 2, none⟩ (.int .i64 (d : Int)) := ⟨_, rfl⟩
                have hks := kp_set u5 u1.heap.size 2 (.int .i64 (d : Int))
                have hpw : wo.heap.size ≤ p := by rw [hp]; have := JK.out.size; have := HU.out.2.2.size; omega
                have hax6 : AxB W6 p b ou (d : Int) := by rw [hW6, hp]; exact HU5.out.2.2.set2 _
                have hk3 : Kp (fun g => g = w1.heap.size) wr (u1.alloc (.cells #[.int .u8 (b : Int), .int .u64 0, .int .i64 0] 66)) := HU.out.2.2.trans (Kp.below (M := fun _ => False) (below_alloc u1 _)) (fun b e => absurd e (fun h => h))
                have hkw : Kp (fun g => g = w1.heap.size) wr W6 := by
                  have hsz := HU.out.2.2.size
                  rw [hW6]
                  exact (((hk3.trans HU3.out.2.1 (fun b e => .inl e)).trans HU3.out.2.2.1 (fun b e => .inr (by omega))).trans HU5.out.2.1 (fun b e => .inl e)).trans hks (fun b e => .inr (by omega))
                have hin6 : InB W6 w1.heap.size O y3 := by rw [hW6]; exact HU5.out.1.kp hks (fun e => hne18 e.symm)
                have hri6 := JI.out.next hin6 HY.out.2.2.1 hkw
                have hst6 : StB W6 g16 (.slice av j cv) true o := JZ.out.2.2.kp hkw (fun e => by have := HRI.out.inb.lt; have := H2.out.2.2.2; omega)
                have har6 := in_arow JZ.out.2.1 JI.out.inb hkw
                have hkk6 := JK.out.trans hkw (fun b e => .inl e)
                rw [← hW6, ← hp]
                have y0 := hst6.at0
                have x0 := hax6.at0
                have x1' := hax6.at1
                have x2' := hax6.at2
                have har6' := har6
                unfold ARow at har6'
                rw [JZ.out.1] at har6'
                have HW := Lib.hid (And.intro (show (W6.alloc (.cells #[.int .u8 (b : Int), .int .u64 (ou : Int), .int .i64 (d : Int)] 66)).heap[W6.heap.size]? = some (.cells #[.int .u8 (b : Int), .int .u64 (ou : Int), .int .i64 (d : Int)] 66 (0, 0)) from heap_alloc_new W6 _) (And.intro har6' (And.intro (show j ≤ 100000 by omega) (And.intro (show wo.heap.size ≤ W6.heap.size from hkk6.size)
                  (And.intro (show ∀ u ∈ [Value.int .u8 (b : Int), .int .u64 (ou : Int), .int .i64 (d : Int)], u.oneCell' = true by intro u hu; simp at hu; rcases hu with rfl | rfl | rfl <;> rfl) (And.intro (st_apart hst6 har6) (And.intro hst6.at0 (And.intro (hst6.free 0) hst6.lt))))))))
                have HNX := Lib.hid (And.intro hst6 (And.intro har6 (And.intro hri6 hkk6)))
                clear hW6 hp hks hpw hax6 hk3 hkw hin6 hri6 hst6 har6 har6' hkk6 y18 y19 y28 y29 hne18 c2' 
                go_wp2_with (at_builtin
                             go_loud (refine wpList_append_row (w2 := W6) (vs := .slice av j cv) rfl (.tmp 104) (.tmp 106) rfl rfl Tryd.underlying62 iArc rfl (by decide) wo.heap.size g16 0 (.slice av j cv) j (arcsC zs) [.int .u8 (b : Int), .int .u64 (ou : Int), .int .i64 (d : Int)] W6.heap.size rfl rfl HW.out.1 (below_alloc _ _) HW.out.2.1 HW.out.2.2.1 HW.out.2.2.2.1 rfl HW.out.2.2.2.2.1 HW.out.2.2.2.2.2.1 HW.out.2.2.2.2.2.2.1 HW.out.2.2.2.2.2.2.2.1 HW.out.2.2.2.2.2.2.2.2 ?_)
                             intro a5 n5 c5 w5 hA5 r1 r2
                             have HA5 := Lib.hid hA5
                             clear hA5 y0)
                obtain ⟨n1, n2, n3⟩ := arow_next (y := ⟨b, ou, (d : Int)⟩) (v5 := .slice a5 n5 c5) HNX.out.1 HNX.out.2.1 (by rw [JZ.out.1]; exact HA5.out)
                obtain ⟨ar', cr', e⟩ := n2.form'
                injection e with i1 i2 i3
                subst i1 i2 i3
                have hlen : (zs ++ [(⟨b, ou, (d : Int)⟩ : DArc)]).length = j + 1 := by simp [JZ.out.1]
                rw [hlen] at n1 n2 n3 ⊢
                have hbig : ∀ g, (Value.slice av j cv).ownBlock = some g ∨ g = g16 → wo.heap.size ≤ g := fun g e => by
                  rcases e with e | e
                  · exact (HNX.out.2.1.lt g e).1
                  · rw [e]; exact H2.out.2.2.2
                exact ⟨⟨j + 1, y3, zs ++ [(⟨b, ou, (d : Int)⟩ : DArc)], a5, c5, by omega, by go_num, Lib.hid (HNX.out.2.2.1.grow n3 fun g e => by
                  have h1 := hbig g e
                  have h2 := HRI.out.inb.lt
                  have h3 := HRI.out.q2
                  exact ⟨by omega, by omega⟩), Lib.hid ⟨hlen, n2, n1⟩, Lib.hid HY.out.2.2.2.2.2.2.2, Lib.hid (HNX.out.2.2.2.trans n3 fun g e => .inr (hbig g e))⟩, by simp [intOf]; omega⟩
              · have hst : arcsG L k na x2 [] = (zs, y) := by
                  rw [← JG.out]
                  by_cases hj0 : na - j = 0
                  · rw [hj0]; rfl
                  · exact arcsG_bad (fun e => hlj ⟨by omega, e⟩) _ _
                have hsg : stG L k x = (⟨zs, true, o⟩, y) := by
                  unfold stG
                  rw [HT.out.1, HT.out.2.1, HO.out.1, HO.out.2.1, HNA.out, hst]
                have i0 := FstB.kp HF.out JK.out (by omega)
                have r0 := in_rows HRW.out.1 HRI.out.inb JK.out
                have y0 := JZ.out.2.2.at0
                have y1 := JZ.out.2.2.at1
                have y2 := JZ.out.2.2.at2
                have i11 := i0.at0
                have hr0 := r0.1
                unfold SRow at hr0
                rw [HRW.out.2] at hr0
                have hwow : w.heap.size ≤ wo.heap.size := HRI.out.below.size
                have hya : ARow wr w.heap.size (.slice av j cv) zs := owns_base JZ.out.2.1 hwow
                have HW := Lib.hid (And.intro (show (wr.alloc (.cells #[.slice av j cv, .bool true, .int .u64 (o : Int)] 64)).heap[wr.heap.size]? = some (.cells #[.slice av j cv, .bool true, .int .u64 (o : Int)] 64 (0, 0)) from heap_alloc_new wr _) (And.intro hr0 (And.intro (show k ≤ 100000 by have := HLS.out.2.2.1; omega) (And.intro (show w.heap.size ≤ wr.heap.size from JI.out.below.size)
                  (And.intro (show ∀ u ∈ [Value.slice av j cv, .bool true, .int .u64 (o : Int)], u.oneCell' = true by intro u hu; simp at hu; rcases hu with rfl | rfl | rfl <;> rfl) (And.intro (fst_apart i0 r0.1) (And.intro i0.at0 (And.intro (i0.free 0) i0.lt))))))))
                have hend : Hid (∀ a5 n5 c5 w5, Appd wr w.heap.size 64 (.slice ar k cr) (k + 1) (stsC xs ++ [.slice av j cv, .bool true, .int .u64 (o : Int)]) g 0 (.slice ar k cr) (.slice a5 n5 c5) w5 →
                    n5 = k + 1 ∧ Hid (RI w (w5.setCell ⟨g, 0, none⟩ (.slice a5 (k + 1) c5)) w1.heap.size O y) ∧ Hid (FstB (w5.setCell ⟨g, 0, none⟩ (.slice a5 (k + 1) c5)) g (.slice a5 (k + 1) c5) 0) ∧
                    Hid (RowsI (w5.setCell ⟨g, 0, none⟩ (.slice a5 (k + 1) c5)) w.heap.size (.slice a5 (k + 1) c5) (xs ++ [((.slice av j cv, ⟨zs, true, o⟩) : Value × DSt)]) ∧ (xs ++ [((.slice av j cv, ⟨zs, true, o⟩) : Value × DSt)]).length = k + 1) ∧
                    Hid (stsG L (m - (k + 1)) (k + 1) y ((xs ++ [((.slice av j cv, ⟨zs, true, o⟩) : Value × DSt)]).map (·.2)) = stsX L ∧ (y.c = 0 → k + 1 ≤ y.a) ∧ k + 1 ≤ O.size + 1)) := Lib.hid fun a5 n5 c5 w5 hA => by
                  obtain ⟨n1, n2, n3⟩ := rowsI_next (y := (.slice av j cv, ⟨zs, true, o⟩)) (v5 := .slice a5 n5 c5) i0 r0 hya (by omega) (by rw [HRW.out.2]; exact hA)
                  obtain ⟨ar', cr', e⟩ := n2.1.form
                  injection e with i1 i2 i3
                  subst i1 i2 i3
                  have hlen : (xs ++ [((.slice av j cv, ⟨zs, true, o⟩) : Value × DSt)]).length = k + 1 := by simp [HRW.out.2]
                  rw [hlen] at n1 n2 n3 ⊢
                  refine ⟨rfl, Lib.hid ?_, Lib.hid n1, Lib.hid ⟨n2, rfl⟩, Lib.hid ⟨?_, fun hy => ?_, by omega⟩⟩
                  · refine JI.out.grow n3 fun b e => ?_
                    rcases e with e | e
                    · obtain ⟨h1, cs, fz, hc⟩ := owns_cells r0.1 b e
                      have g1 : wr.heap[w.heap.size]? = some _ := JI.out.fst
                      have g2 : wr.heap[w.heap.size + 1]? = some _ := JI.out.flt
                      have g3 : wr.heap[w1.heap.size]? = some _ := JI.out.inb
                      refine ⟨?_, fun e2 => by subst e2; rw [g3] at hc; cases hc⟩
                      rcases (show b = w.heap.size ∨ b = w.heap.size + 1 ∨ w.heap.size + 2 ≤ b by omega) with e2 | e2 | e2
                      · subst e2; rw [g1] at hc; cases hc
                      · subst e2; rw [g2] at hc; cases hc
                      · exact e2
                    · rw [e]; exact ⟨by omega, by omega⟩
                  · rw [← HSG.out.1, show m - k = (m - (k + 1)) + 1 by omega, List.map_append]
                    show _ = (if x.c = 0 then stsG L (m - (k + 1)) (k + 1) (stG L k x).2 (xs.map (·.2) ++ [(stG L k x).1]) else (xs.map (·.2), x))
                    rw [if_pos HT.out.2.2.2.2, hsg]
                    rfl
                  · have h1 := stG_lt (own := k) HT.out.2.2.2.1 HT.out.2.2.2.2 (by rw [hsg]; exact hy)
                    rw [hsg] at h1
                    have h2 := HSG.out.2.1 HT.out.2.2.2.2
                    exact Nat.lt_of_le_of_lt h2 h1
                clear i0 r0 hr0 hya hst hsg
                have hdd : decide ((j : Int) < (na : Int)) = false ∧ decide (j < na) = false ∨ (decide ((j : Int) < (na : Int)) = true ∧ decide (j < na) = true ∧ ((y.c : Int) == 0) = false) := by
                  rcases Nat.lt_or_ge j na with h | h
                  · exact .inr ⟨by simp; omega, by simp; omega, y.c_dec (fun e => hlj ⟨h, e⟩)⟩
                  · exact .inl ⟨by simp; omega, by simp; omega⟩
                clear hlj
                rcases hdd with ⟨d4, d6⟩ | ⟨d4, d6, d7⟩
                all_goals (
                  go_wp2_with (at_builtin
                               go_loud (refine wpList_append_row (w2 := wr) (vs := .slice ar k cr) rfl (.tmp 110) (.tmp 112) rfl rfl Tryd.underlying22 iState rfl (by decide) w.heap.size g 0 (.slice ar k cr) k (stsC xs) [.slice av j cv, .bool true, .int .u64 (o : Int)] wr.heap.size rfl rfl HW.out.1 (below_alloc _ _) HW.out.2.1 HW.out.2.2.1 HW.out.2.2.2.1 rfl HW.out.2.2.2.2.1 HW.out.2.2.2.2.2.1 HW.out.2.2.2.2.2.2.1 HW.out.2.2.2.2.2.2.2.1 HW.out.2.2.2.2.2.2.2.2 ?_)
                               intro a5 n5 c5 w5 hA5 r1 r2
                               obtain ⟨rfl, hz⟩ := hend.out _ _ _ _ hA5
                               have HZ := Lib.hid hz
                               clear hA5 hz i11)
                  exact ⟨⟨k + 1, y, _, a5, c5, by omega, by go_num, HZ.out.1, HZ.out.2.1, HZ.out.2.2.1, HZ.out.2.2.2⟩, by simp [intOf]; omega⟩)
        · have hfin : stsX L = (xs.map (·.2), x) := by
            rw [← HSG.out.1]
            by_cases hm0 : m - k = 0
            · rw [hm0]; rfl
            · exact stsG_bad (fun e => hgo ⟨by omega, e⟩) _ _
          obtain ⟨S, hS⟩ : ∃ S, xs.map (·.2) = S := ⟨_, rfl⟩
          rw [hS] at hfin
          have hSl : S.length = k := by rw [← hS, List.length_map]; exact HRW.out.2
          obtain ⟨ini, hini⟩ : ∃ ini, (x.num L 0 top64).1 = ini := ⟨_, rfl⟩
          obtain ⟨z, hz⟩ : ∃ z, (x.num L 0 top64).2 = z := ⟨_, rfl⟩
          have hixL : iniX L = (ini, z) := by unfold iniX; rw [hfin, ← hini, ← hz]
          have hzl : z.a ≤ O.size := by rw [← hz, ← HLS.out.1]; exact (IS.num_le (by rw [HLS.out.1]; exact HRI.out.le) _ _).1
          have hini64 : ini < 18446744073709551616 := by rw [← hini]; exact (IS.num_hi (by decide)).2
          have hssts : Sts wr (.slice ar k cr) S := by
            have := HRW.out.1.sts
            rwa [hS] at this
          have QN7 := num_any (li := 0) (hi' := 18446744073709551615) (lo := 0) (hi := top64) HRI.out.inb (by have := HLS.out.2.2.1; omega) (by decide) (by decide) rfl rfl
          rw [HLS.out.2.1, hini, hz] at QN7
          have QN7 := Lib.hid QN7
          have HZ := Lib.hid (And.intro hfin (And.intro hixL (And.intro hzl (And.intro hSl hssts))))
          have hdd : (decide ((k : Int) < (m : Int)) = false ∧ decide (k < m) = false) ∨ (decide ((k : Int) < (m : Int)) = true ∧ decide (k < m) = true ∧ ((x.c : Int) == 0) = false) := by
            rcases Nat.lt_or_ge k m with h | h
            · exact .inr ⟨by simp; omega, by simp; omega, x.c_dec (fun e => hgo ⟨h, e⟩)⟩
            · exact .inl ⟨by simp; omega, by simp; omega⟩
          have HSS := Lib.hid hS
          clear hgo hfin hS hini hz hixL hzl hssts
          rcases hdd with ⟨d4, d6⟩ | ⟨d4, d6, d7⟩
          · go_upto_region 30 with fail
            go_upto_region 31 with (
               go_step
               go_step
               with_reducible refine QN7.out.mono ?_
               go_loud (
               rintro e' v1 ⟨rfl, hi3, hk3⟩
               have HV := Lib.hid (And.intro (HRI.out.next hi3 HZ.out.2.2.1 hk3) (And.intro hi3 hk3))
               have hfg := HF.out.kp hk3 (by omega)
               have y18 := hfg.at1
               have y19 := hfg.free 1
               clear hi3 hk3 hfg))
            obtain ⟨V, hV⟩ : ∃ V, V = v1.setCell ⟨g, 1, none⟩ (.int .u64 (ini : Int)) := ⟨_, rfl⟩
            have hksg := kp_set v1 g 1 (.int .u64 (ini : Int))
            have hfgv := (HF.out.kp HV.out.2.2 (show ¬ g = w1.heap.size by omega))
            have hfV : FstB V g (.slice ar k cr) ini := by rw [hV]; exact hfgv.set1 ini
            have hriV : RI w V w1.heap.size O z := by
              rw [hV]
              exact HV.out.1.grow hksg (fun b e => by rw [e]; exact ⟨by omega, by omega⟩)
            have hrows : RowsI V w.heap.size (.slice ar k cr) xs := by
              rw [hV]
              exact (in_rows HRW.out.1 HRI.out.inb HV.out.2.2).kp hksg fun b cs fz _ hc e => by
                have hfgv' : v1.heap[g]? = some _ := hfgv
                rw [e, hfgv'] at hc
                rcases hc with hc | hc <;> cases hc
            rw [← hV]
            have HE2 := Lib.hid (And.intro hfV (And.intro hriV hrows))
            clear hV hksg hfgv hfV hriV hrows y18 y19
            have q1 := HE2.out.2.1.inb.at1
            have il : (z.a : Int) < (O.size : Int) ∨ ¬ (z.a : Int) < (O.size : Int) := by omega
            rcases Nat.lt_or_ge z.a O.size with hzz | hzz
            · have d9 : decide ((z.a : Int) < (O.size : Int)) = true := by simp; omega
              have d99 : decide (z.a < O.size) = true := by simp; omega
              have hend : endX L = z.fail 4 z.a := by unfold endX; rw [HZ.out.2.1, if_pos (show z.a < L.length by rw [HLS.out.1]; exact hzz)]
              have QF := Lib.hid (fail_any (ci := 4) (pi := (z.a : Int)) (c := 4) (p := z.a) HE2.out.2.1.inb rfl rfl)
              have HEN := Lib.hid (And.intro hend (show (z.fail 4 z.a).a ≤ O.size by unfold IS.fail; split <;> exact HZ.out.2.2.1))
              clear hend hzz il
              go_upto_region 33 with (
               go_step
               go_step
               with_reducible refine QF.out.mono ?_
               go_loud (
               rintro e' v2 ⟨rfl, hi4, hk4⟩
               have hr4 := HE2.out.2.1.next hi4 HEN.out.2 hk4
               have hf4 := HE2.out.1.kp hk4 (show ¬ g = w1.heap.size by omega)
               have HE3 := Lib.hid (And.intro hr4 (And.intro hf4 hk4))
               clear hi4 hk4 hr4 hf4))
              have HEX := Lib.hid (And.intro HEN.out.1 (And.intro HE3.out.1 (And.intro HE3.out.2.1 (in_rows HE2.out.2.2 HE2.out.2.1.inb HE3.out.2.2).sts)))
              have hag := body_agr L (by rw [HLS.out.1]; have := HLS.out.2.2.1; omega)
              rw [show bodyR L = R by rw [← HLS.out.2.1]; exact HLS.out.2.2.2, HE.out.1, HZ.out.1, HZ.out.2.1, HEX.out.1] at hag
              have c2 := HEX.out.2.1.inb.at2
              have c3 := HEX.out.2.1.inb.at3
              have p0 := HEX.out.2.1.fst.at0
              have p1 := HEX.out.2.1.fst.at1
              have p2 := HEX.out.2.1.fst.free 0
              have p3 := HEX.out.2.1.fst.free 1
              have p4 := HEX.out.2.1.flt.at0
              have p5 := HEX.out.2.1.flt.at1
              have p6 := flt_free HEX.out.2.1.flt 0
              have p7 := flt_free HEX.out.2.1.flt 1
              have g0 := HEX.out.2.2.1.at0
              have g1 := HEX.out.2.2.1.at1
              have e1 : ¬ w1.heap.size = w.heap.size := by omega
              have e2 : ¬ w1.heap.size = w.heap.size + 1 := by omega
              have e3 : ¬ g = w.heap.size := by omega
              have e4 : ¬ g = w.heap.size + 1 := by omega
              have e5 : ¬ w.heap.size = w.heap.size + 1 := by omega
              clear q1
              cases R with
              | error ee =>
                obtain ⟨c, p⟩ := ee
                obtain ⟨a1, a2, a3⟩ := hag
                rw [a1] at c2
                rw [a2] at c3
                have dc : ((c : Int) == 0) = false := by rw [beq_eq_false_iff_ne]; omega
                clear a1 a2 a3
                go_upto_region 34 with fail
                go_region
                obtain ⟨W0, hW0⟩ : ∃ W0, W0 = (((v2.setCell ⟨w.heap.size, 0, none⟩ (.slice none 0 0)).setCell ⟨w.heap.size, 1, none⟩ (.int .u64 ((0 : Nat) : Int))).setCell ⟨w.heap.size + 1, 0, none⟩ (.int .i64 (c : Int))).setCell ⟨w.heap.size + 1, 1, none⟩ (.int .i64 (p : Int)) := ⟨_, rfl⟩
                obtain ⟨W, hW⟩ : ∃ W, W = W0.drew := ⟨_, rfl⟩
                obtain ⟨o1, o2, o3, o4⟩ := ref_outD HEX.out.2.1.fst HEX.out.2.1.flt (sts_none v2) rfl hW0 hW
                have hbel : Below w.heap.size w W := ((Kp.below (M := fun g => w.heap.size ≤ g) HEX.out.2.1.below).trans o4 (fun g e => .inl (by omega))).to (Nat.le_refl _) fun g e => e
                have HOUT := Lib.hid (And.intro o3 hbel)
                have t0 := o1.at0
                have t1 := o1.at1
                have t2 := o2.at0
                have t3 := o2.at1
                rw [show ((0 : Nat) : Int) = 0 from rfl] at hW0
                rw [← hW0, ← hW]
                clear hW hW0 o1 o2 o3 o4 hbel
                go_wp2_with fail
                simp [bodyPost, results, Tryd.results37, go_sem, t0, t1, t2, t3]
                exact ⟨rfl, HOUT.out.2⟩
              | ok rr =>
                obtain ⟨n', l, i⟩ := rr
                obtain ⟨a1, a2, a3, a4, a5⟩ := hag
                rw [a4] at c2
                have c2' : v2.cell? ⟨w1.heap.size, 2, none⟩ = some (.int .i64 0) := c2
                clear c2
                go_upto_region 35 with fail
                go_region
                obtain ⟨W0, hW0⟩ : ∃ W0, W0 = (((v2.setCell ⟨w.heap.size, 0, none⟩ (.slice ar k cr)).setCell ⟨w.heap.size, 1, none⟩ (.int .u64 ((ini : Nat) : Int))).setCell ⟨w.heap.size + 1, 0, none⟩ (.int .i64 0)).setCell ⟨w.heap.size + 1, 1, none⟩ (.int .i64 0) := ⟨_, rfl⟩
                obtain ⟨W, hW⟩ : ∃ W, W = W0.drew := ⟨_, rfl⟩
                obtain ⟨o1, o2, o3, o4⟩ := ref_outD HEX.out.2.1.fst HEX.out.2.1.flt HEX.out.2.2.2 rfl hW0 hW
                have hbel : Below w.heap.size w W := ((Kp.below (M := fun g => w.heap.size ≤ g) HEX.out.2.1.below).trans o4 (fun g e => .inl (by omega))).to (Nat.le_refl _) fun g e => e
                have HOUT := Lib.hid (And.intro o3 hbel)
                have t0 := o1.at0
                have t1 := o1.at1
                have t2 := o2.at0
                have t3 := o2.at1
                skip
                rw [← hW0, ← hW]
                clear hW hW0 o1 o2 o3 o4 hbel
                go_wp2_with fail
                simp [bodyPost, results, Tryd.results37, go_sem, t0, t1, t2, t3]
                exact ⟨⟨ar, cr, by rw [← a2, hSl, a3], by rw [← a2, hSl, ← HSS.out]; exact HOUT.out.1⟩, HOUT.out.2⟩
            · have d9 : decide ((z.a : Int) < (O.size : Int)) = false := by simp; omega
              have d99 : decide (z.a < O.size) = false := by simp; omega
              have hend : endX L = z := by unfold endX; rw [HZ.out.2.1, if_neg (show ¬ z.a < L.length by rw [HLS.out.1]; omega)]
              have HEN := Lib.hid hend
              clear hend hzz il
              go_upto_region 33 with fail
              have HEX := Lib.hid (And.intro HEN.out (And.intro HE2.out.2.1 (And.intro HE2.out.1 HE2.out.2.2.sts)))
              have hag := body_agr L (by rw [HLS.out.1]; have := HLS.out.2.2.1; omega)
              rw [show bodyR L = R by rw [← HLS.out.2.1]; exact HLS.out.2.2.2, HE.out.1, HZ.out.1, HZ.out.2.1, HEX.out.1] at hag
              have c2 := HEX.out.2.1.inb.at2
              have c3 := HEX.out.2.1.inb.at3
              have p0 := HEX.out.2.1.fst.at0
              have p1 := HEX.out.2.1.fst.at1
              have p2 := HEX.out.2.1.fst.free 0
              have p3 := HEX.out.2.1.fst.free 1
              have p4 := HEX.out.2.1.flt.at0
              have p5 := HEX.out.2.1.flt.at1
              have p6 := flt_free HEX.out.2.1.flt 0
              have p7 := flt_free HEX.out.2.1.flt 1
              have g0 := HEX.out.2.2.1.at0
              have g1 := HEX.out.2.2.1.at1
              have e1 : ¬ w1.heap.size = w.heap.size := by omega
              have e2 : ¬ w1.heap.size = w.heap.size + 1 := by omega
              have e3 : ¬ g = w.heap.size := by omega
              have e4 : ¬ g = w.heap.size + 1 := by omega
              have e5 : ¬ w.heap.size = w.heap.size + 1 := by omega
              clear q1
              cases R with
              | error ee =>
                obtain ⟨c, p⟩ := ee
                obtain ⟨a1, a2, a3⟩ := hag
                rw [a1] at c2
                rw [a2] at c3
                have dc : ((c : Int) == 0) = false := by rw [beq_eq_false_iff_ne]; omega
                clear a1 a2 a3
                go_upto_region 34 with fail
                go_region
                obtain ⟨W0, hW0⟩ : ∃ W0, W0 = (((V.setCell ⟨w.heap.size, 0, none⟩ (.slice none 0 0)).setCell ⟨w.heap.size, 1, none⟩ (.int .u64 ((0 : Nat) : Int))).setCell ⟨w.heap.size + 1, 0, none⟩ (.int .i64 (c : Int))).setCell ⟨w.heap.size + 1, 1, none⟩ (.int .i64 (p : Int)) := ⟨_, rfl⟩
                obtain ⟨W, hW⟩ : ∃ W, W = W0.drew := ⟨_, rfl⟩
                obtain ⟨o1, o2, o3, o4⟩ := ref_outD HEX.out.2.1.fst HEX.out.2.1.flt (sts_none V) rfl hW0 hW
                have hbel : Below w.heap.size w W := ((Kp.below (M := fun g => w.heap.size ≤ g) HEX.out.2.1.below).trans o4 (fun g e => .inl (by omega))).to (Nat.le_refl _) fun g e => e
                have HOUT := Lib.hid (And.intro o3 hbel)
                have t0 := o1.at0
                have t1 := o1.at1
                have t2 := o2.at0
                have t3 := o2.at1
                rw [show ((0 : Nat) : Int) = 0 from rfl] at hW0
                rw [← hW0, ← hW]
                clear hW hW0 o1 o2 o3 o4 hbel
                go_wp2_with fail
                simp [bodyPost, results, Tryd.results37, go_sem, t0, t1, t2, t3]
                exact ⟨rfl, HOUT.out.2⟩
              | ok rr =>
                obtain ⟨n', l, i⟩ := rr
                obtain ⟨a1, a2, a3, a4, a5⟩ := hag
                rw [a4] at c2
                have c2' : V.cell? ⟨w1.heap.size, 2, none⟩ = some (.int .i64 0) := c2
                clear c2
                go_upto_region 35 with fail
                go_region
                obtain ⟨W0, hW0⟩ : ∃ W0, W0 = (((V.setCell ⟨w.heap.size, 0, none⟩ (.slice ar k cr)).setCell ⟨w.heap.size, 1, none⟩ (.int .u64 ((ini : Nat) : Int))).setCell ⟨w.heap.size + 1, 0, none⟩ (.int .i64 0)).setCell ⟨w.heap.size + 1, 1, none⟩ (.int .i64 0) := ⟨_, rfl⟩
                obtain ⟨W, hW⟩ : ∃ W, W = W0.drew := ⟨_, rfl⟩
                obtain ⟨o1, o2, o3, o4⟩ := ref_outD HEX.out.2.1.fst HEX.out.2.1.flt HEX.out.2.2.2 rfl hW0 hW
                have hbel : Below w.heap.size w W := ((Kp.below (M := fun g => w.heap.size ≤ g) HEX.out.2.1.below).trans o4 (fun g e => .inl (by omega))).to (Nat.le_refl _) fun g e => e
                have HOUT := Lib.hid (And.intro o3 hbel)
                have t0 := o1.at0
                have t1 := o1.at1
                have t2 := o2.at0
                have t3 := o2.at1
                skip
                rw [← hW0, ← hW]
                clear hW hW0 o1 o2 o3 o4 hbel
                go_wp2_with fail
                simp [bodyPost, results, Tryd.results37, go_sem, t0, t1, t2, t3]
                exact ⟨⟨ar, cr, by rw [← a2, hSl, a3], by rw [← a2, hSl, ← HSS.out]; exact HOUT.out.1⟩, HOUT.out.2⟩
          · go_upto_region 30 with fail
            go_upto_region 31 with (
               go_step
               go_step
               with_reducible refine QN7.out.mono ?_
               go_loud (
               rintro e' v1 ⟨rfl, hi3, hk3⟩
               have HV := Lib.hid (And.intro (HRI.out.next hi3 HZ.out.2.2.1 hk3) (And.intro hi3 hk3))
               have hfg := HF.out.kp hk3 (by omega)
               have y18 := hfg.at1
               have y19 := hfg.free 1
               clear hi3 hk3 hfg))
            obtain ⟨V, hV⟩ : ∃ V, V = v1.setCell ⟨g, 1, none⟩ (.int .u64 (ini : Int)) := ⟨_, rfl⟩
            have hksg := kp_set v1 g 1 (.int .u64 (ini : Int))
            have hfgv := (HF.out.kp HV.out.2.2 (show ¬ g = w1.heap.size by omega))
            have hfV : FstB V g (.slice ar k cr) ini := by rw [hV]; exact hfgv.set1 ini
            have hriV : RI w V w1.heap.size O z := by
              rw [hV]
              exact HV.out.1.grow hksg (fun b e => by rw [e]; exact ⟨by omega, by omega⟩)
            have hrows : RowsI V w.heap.size (.slice ar k cr) xs := by
              rw [hV]
              exact (in_rows HRW.out.1 HRI.out.inb HV.out.2.2).kp hksg fun b cs fz _ hc e => by
                have hfgv' : v1.heap[g]? = some _ := hfgv
                rw [e, hfgv'] at hc
                rcases hc with hc | hc <;> cases hc
            rw [← hV]
            have HE2 := Lib.hid (And.intro hfV (And.intro hriV hrows))
            clear hV hksg hfgv hfV hriV hrows y18 y19
            have q1 := HE2.out.2.1.inb.at1
            have il : (z.a : Int) < (O.size : Int) ∨ ¬ (z.a : Int) < (O.size : Int) := by omega
            rcases Nat.lt_or_ge z.a O.size with hzz | hzz
            · have d9 : decide ((z.a : Int) < (O.size : Int)) = true := by simp; omega
              have d99 : decide (z.a < O.size) = true := by simp; omega
              have hend : endX L = z.fail 4 z.a := by unfold endX; rw [HZ.out.2.1, if_pos (show z.a < L.length by rw [HLS.out.1]; exact hzz)]
              have QF := Lib.hid (fail_any (ci := 4) (pi := (z.a : Int)) (c := 4) (p := z.a) HE2.out.2.1.inb rfl rfl)
              have HEN := Lib.hid (And.intro hend (show (z.fail 4 z.a).a ≤ O.size by unfold IS.fail; split <;> exact HZ.out.2.2.1))
              clear hend hzz il
              go_upto_region 33 with (
               go_step
               go_step
               with_reducible refine QF.out.mono ?_
               go_loud (
               rintro e' v2 ⟨rfl, hi4, hk4⟩
               have hr4 := HE2.out.2.1.next hi4 HEN.out.2 hk4
               have hf4 := HE2.out.1.kp hk4 (show ¬ g = w1.heap.size by omega)
               have HE3 := Lib.hid (And.intro hr4 (And.intro hf4 hk4))
               clear hi4 hk4 hr4 hf4))
              have HEX := Lib.hid (And.intro HEN.out.1 (And.intro HE3.out.1 (And.intro HE3.out.2.1 (in_rows HE2.out.2.2 HE2.out.2.1.inb HE3.out.2.2).sts)))
              have hag := body_agr L (by rw [HLS.out.1]; have := HLS.out.2.2.1; omega)
              rw [show bodyR L = R by rw [← HLS.out.2.1]; exact HLS.out.2.2.2, HE.out.1, HZ.out.1, HZ.out.2.1, HEX.out.1] at hag
              have c2 := HEX.out.2.1.inb.at2
              have c3 := HEX.out.2.1.inb.at3
              have p0 := HEX.out.2.1.fst.at0
              have p1 := HEX.out.2.1.fst.at1
              have p2 := HEX.out.2.1.fst.free 0
              have p3 := HEX.out.2.1.fst.free 1
              have p4 := HEX.out.2.1.flt.at0
              have p5 := HEX.out.2.1.flt.at1
              have p6 := flt_free HEX.out.2.1.flt 0
              have p7 := flt_free HEX.out.2.1.flt 1
              have g0 := HEX.out.2.2.1.at0
              have g1 := HEX.out.2.2.1.at1
              have e1 : ¬ w1.heap.size = w.heap.size := by omega
              have e2 : ¬ w1.heap.size = w.heap.size + 1 := by omega
              have e3 : ¬ g = w.heap.size := by omega
              have e4 : ¬ g = w.heap.size + 1 := by omega
              have e5 : ¬ w.heap.size = w.heap.size + 1 := by omega
              clear q1
              cases R with
              | error ee =>
                obtain ⟨c, p⟩ := ee
                obtain ⟨a1, a2, a3⟩ := hag
                rw [a1] at c2
                rw [a2] at c3
                have dc : ((c : Int) == 0) = false := by rw [beq_eq_false_iff_ne]; omega
                clear a1 a2 a3
                go_upto_region 34 with fail
                go_region
                obtain ⟨W0, hW0⟩ : ∃ W0, W0 = (((v2.setCell ⟨w.heap.size, 0, none⟩ (.slice none 0 0)).setCell ⟨w.heap.size, 1, none⟩ (.int .u64 ((0 : Nat) : Int))).setCell ⟨w.heap.size + 1, 0, none⟩ (.int .i64 (c : Int))).setCell ⟨w.heap.size + 1, 1, none⟩ (.int .i64 (p : Int)) := ⟨_, rfl⟩
                obtain ⟨W, hW⟩ : ∃ W, W = W0.drew := ⟨_, rfl⟩
                obtain ⟨o1, o2, o3, o4⟩ := ref_outD HEX.out.2.1.fst HEX.out.2.1.flt (sts_none v2) rfl hW0 hW
                have hbel : Below w.heap.size w W := ((Kp.below (M := fun g => w.heap.size ≤ g) HEX.out.2.1.below).trans o4 (fun g e => .inl (by omega))).to (Nat.le_refl _) fun g e => e
                have HOUT := Lib.hid (And.intro o3 hbel)
                have t0 := o1.at0
                have t1 := o1.at1
                have t2 := o2.at0
                have t3 := o2.at1
                rw [show ((0 : Nat) : Int) = 0 from rfl] at hW0
                rw [← hW0, ← hW]
                clear hW hW0 o1 o2 o3 o4 hbel
                go_wp2_with fail
                simp [bodyPost, results, Tryd.results37, go_sem, t0, t1, t2, t3]
                exact ⟨rfl, HOUT.out.2⟩
              | ok rr =>
                obtain ⟨n', l, i⟩ := rr
                obtain ⟨a1, a2, a3, a4, a5⟩ := hag
                rw [a4] at c2
                have c2' : v2.cell? ⟨w1.heap.size, 2, none⟩ = some (.int .i64 0) := c2
                clear c2
                go_upto_region 35 with fail
                go_region
                obtain ⟨W0, hW0⟩ : ∃ W0, W0 = (((v2.setCell ⟨w.heap.size, 0, none⟩ (.slice ar k cr)).setCell ⟨w.heap.size, 1, none⟩ (.int .u64 ((ini : Nat) : Int))).setCell ⟨w.heap.size + 1, 0, none⟩ (.int .i64 0)).setCell ⟨w.heap.size + 1, 1, none⟩ (.int .i64 0) := ⟨_, rfl⟩
                obtain ⟨W, hW⟩ : ∃ W, W = W0.drew := ⟨_, rfl⟩
                obtain ⟨o1, o2, o3, o4⟩ := ref_outD HEX.out.2.1.fst HEX.out.2.1.flt HEX.out.2.2.2 rfl hW0 hW
                have hbel : Below w.heap.size w W := ((Kp.below (M := fun g => w.heap.size ≤ g) HEX.out.2.1.below).trans o4 (fun g e => .inl (by omega))).to (Nat.le_refl _) fun g e => e
                have HOUT := Lib.hid (And.intro o3 hbel)
                have t0 := o1.at0
                have t1 := o1.at1
                have t2 := o2.at0
                have t3 := o2.at1
                skip
                rw [← hW0, ← hW]
                clear hW hW0 o1 o2 o3 o4 hbel
                go_wp2_with fail
                simp [bodyPost, results, Tryd.results37, go_sem, t0, t1, t2, t3]
                exact ⟨⟨ar, cr, by rw [← a2, hSl, a3], by rw [← a2, hSl, ← HSS.out]; exact HOUT.out.1⟩, HOUT.out.2⟩
            · have d9 : decide ((z.a : Int) < (O.size : Int)) = false := by simp; omega
              have d99 : decide (z.a < O.size) = false := by simp; omega
              have hend : endX L = z := by unfold endX; rw [HZ.out.2.1, if_neg (show ¬ z.a < L.length by rw [HLS.out.1]; omega)]
              have HEN := Lib.hid hend
              clear hend hzz il
              go_upto_region 33 with fail
              have HEX := Lib.hid (And.intro HEN.out (And.intro HE2.out.2.1 (And.intro HE2.out.1 HE2.out.2.2.sts)))
              have hag := body_agr L (by rw [HLS.out.1]; have := HLS.out.2.2.1; omega)
              rw [show bodyR L = R by rw [← HLS.out.2.1]; exact HLS.out.2.2.2, HE.out.1, HZ.out.1, HZ.out.2.1, HEX.out.1] at hag
              have c2 := HEX.out.2.1.inb.at2
              have c3 := HEX.out.2.1.inb.at3
              have p0 := HEX.out.2.1.fst.at0
              have p1 := HEX.out.2.1.fst.at1
              have p2 := HEX.out.2.1.fst.free 0
              have p3 := HEX.out.2.1.fst.free 1
              have p4 := HEX.out.2.1.flt.at0
              have p5 := HEX.out.2.1.flt.at1
              have p6 := flt_free HEX.out.2.1.flt 0
              have p7 := flt_free HEX.out.2.1.flt 1
              have g0 := HEX.out.2.2.1.at0
              have g1 := HEX.out.2.2.1.at1
              have e1 : ¬ w1.heap.size = w.heap.size := by omega
              have e2 : ¬ w1.heap.size = w.heap.size + 1 := by omega
              have e3 : ¬ g = w.heap.size := by omega
              have e4 : ¬ g = w.heap.size + 1 := by omega
              have e5 : ¬ w.heap.size = w.heap.size + 1 := by omega
              clear q1
              cases R with
              | error ee =>
                obtain ⟨c, p⟩ := ee
                obtain ⟨a1, a2, a3⟩ := hag
                rw [a1] at c2
                rw [a2] at c3
                have dc : ((c : Int) == 0) = false := by rw [beq_eq_false_iff_ne]; omega
                clear a1 a2 a3
                go_upto_region 34 with fail
                go_region
                obtain ⟨W0, hW0⟩ : ∃ W0, W0 = (((V.setCell ⟨w.heap.size, 0, none⟩ (.slice none 0 0)).setCell ⟨w.heap.size, 1, none⟩ (.int .u64 ((0 : Nat) : Int))).setCell ⟨w.heap.size + 1, 0, none⟩ (.int .i64 (c : Int))).setCell ⟨w.heap.size + 1, 1, none⟩ (.int .i64 (p : Int)) := ⟨_, rfl⟩
                obtain ⟨W, hW⟩ : ∃ W, W = W0.drew := ⟨_, rfl⟩
                obtain ⟨o1, o2, o3, o4⟩ := ref_outD HEX.out.2.1.fst HEX.out.2.1.flt (sts_none V) rfl hW0 hW
                have hbel : Below w.heap.size w W := ((Kp.below (M := fun g => w.heap.size ≤ g) HEX.out.2.1.below).trans o4 (fun g e => .inl (by omega))).to (Nat.le_refl _) fun g e => e
                have HOUT := Lib.hid (And.intro o3 hbel)
                have t0 := o1.at0
                have t1 := o1.at1
                have t2 := o2.at0
                have t3 := o2.at1
                rw [show ((0 : Nat) : Int) = 0 from rfl] at hW0
                rw [← hW0, ← hW]
                clear hW hW0 o1 o2 o3 o4 hbel
                go_wp2_with fail
                simp [bodyPost, results, Tryd.results37, go_sem, t0, t1, t2, t3]
                exact ⟨rfl, HOUT.out.2⟩
              | ok rr =>
                obtain ⟨n', l, i⟩ := rr
                obtain ⟨a1, a2, a3, a4, a5⟩ := hag
                rw [a4] at c2
                have c2' : V.cell? ⟨w1.heap.size, 2, none⟩ = some (.int .i64 0) := c2
                clear c2
                go_upto_region 35 with fail
                go_region
                obtain ⟨W0, hW0⟩ : ∃ W0, W0 = (((V.setCell ⟨w.heap.size, 0, none⟩ (.slice ar k cr)).setCell ⟨w.heap.size, 1, none⟩ (.int .u64 ((ini : Nat) : Int))).setCell ⟨w.heap.size + 1, 0, none⟩ (.int .i64 0)).setCell ⟨w.heap.size + 1, 1, none⟩ (.int .i64 0) := ⟨_, rfl⟩
                obtain ⟨W, hW⟩ : ∃ W, W = W0.drew := ⟨_, rfl⟩
                obtain ⟨o1, o2, o3, o4⟩ := ref_outD HEX.out.2.1.fst HEX.out.2.1.flt HEX.out.2.2.2 rfl hW0 hW
                have hbel : Below w.heap.size w W := ((Kp.below (M := fun g => w.heap.size ≤ g) HEX.out.2.1.below).trans o4 (fun g e => .inl (by omega))).to (Nat.le_refl _) fun g e => e
                have HOUT := Lib.hid (And.intro o3 hbel)
                have t0 := o1.at0
                have t1 := o1.at1
                have t2 := o2.at0
                have t3 := o2.at1
                skip
                rw [← hW0, ← hW]
                clear hW hW0 o1 o2 o3 o4 hbel
                go_wp2_with fail
                simp [bodyPost, results, Tryd.results37, go_sem, t0, t1, t2, t3]
                exact ⟨⟨ar, cr, by rw [← a2, hSl, a3], by rw [← a2, hSl, ← HSS.out]; exact HOUT.out.1⟩, HOUT.out.2⟩
end Go.Proofs.YtjiilmiikejnhaaDoor
namespace Go.Proofs.YtjiilmiikejnhaaDoor
open Go.RowKit Go.Shelf Said

theorem one_any {w : World} {n : Nat} {x : Int} (hx : x = (n : Int)) (hn : n < 18446744073709551616) : ∃ E : ByteArray, E.size ≤ 9 ∧ ∀ W, Below w.heap.size w W → Calls Tryd.prog 31 #[.int .u64 x] W fun e w' => e = .returned (.string E) ∧ Below W.heap.size W w' := by
  subst hx
  refine ⟨⟨(Plain.enc n).toArray⟩, ?_, fun W _ => ?_⟩
  · show (Plain.enc n).toArray.size ≤ 9
    rw [List.size_toArray, Plain.enc_length]
    exact (Plain.size_bounds hn).2
  · have Q := Lib.hid (refPut_any n W hn)
    generalize (⟨(Plain.enc n).toArray⟩ : ByteArray) = E at Q ⊢
    go_enter Tryd.func31, Tryd.ntmps31
    go_wp2_with (go_at_call 51
                 (with_reducible refine Q.out.mono ?_)
                 go_loud (
                 rintro e' w1 ⟨rfl, hb1⟩
                 have H1 := Lib.hid hb1
                 clear hb1))
    go_ret
    exact ⟨rfl, H1.out⟩
theorem conv_one {W : World} {bb b : Nat} (hb : b < 256) (n1 : W.heap[bb]? = some (.cells #[.int .u8 (b : Int)] 5 (0, 0))) : (convert 43 9 (.slice (some ⟨bb, 0, none⟩) 1 1)).run Tryd.prog W = .ok (.string ⟨#[UInt8.ofNat b]⟩) W := by
  have hr : RowOf W bb [UInt8.ofNat b] := by
    constructor
    · intro i hi
      have : i = 0 := by simpa using hi
      subst this
      rw [cell_of_row W bb 0 _ _ _ n1]
      simp
      omega
    · intro i hi
      simp [World.frozen?, n1]
  have := rowOf_str (c := 1) hr
  exact this
theorem one_mono (b : Nat) : Mono (fun v W => ∃ bb, v = .slice (some ⟨bb, 0, none⟩) 1 1 ∧ W.heap[bb]? = some (.cells #[.int .u8 (b : Int)] 5 (0, 0))) := by
  rintro v W W' hb ⟨bb, e, n1⟩
  exact ⟨bb, e, by rw [hb.block bb (Array.getElem?_eq_some_iff.1 n1).1]; exact n1⟩

set_option maxHeartbeats 4000000 in
set_option maxRecDepth 100000 in
theorem refPack_any {w : World} {n : Nat} {v : Value} {l : List DSt} {init : Nat} (h : Sts w v l) (hf : Formed l) (hn : n ≤ 100000) (hi : init < 18446744073709551616) :
    Calls Tryd.prog 12 #[.int .i64 (n : Int), .agg #[v, .int .u64 (init : Int)]] w fun e w' => (∃ S : ByteArray, e = .returned (.tuple #[.string S, .int .i64 0]) ∧ S.size ≤ 5000) ∧ Below w.heap.size w w' := by
  have hst := h
  obtain ⟨ad, c, rfl, hc⟩ := h
  obtain ⟨m, hmm⟩ : ∃ m, l.length = m := ⟨_, rfl⟩
  rw [hmm] at hst ⊢
  have hm12 : m ≤ 12 := by rw [← hmm]; exact hf.len
  obtain ⟨W1, hW1⟩ : ∃ W1, W1 = w.alloc (.cells #[.slice ad m c, .int .u64 (init : Int)] 25) := ⟨_, rfl⟩
  have hb1 : Below w.heap.size w W1 := by rw [hW1]; exact below_alloc _ _
  have f1 : FstB W1 w.heap.size (.slice ad m c) init := by rw [hW1]; exact heap_alloc_new w _
  have QM := Lib.hid (refMay_any (n := (n : Int)) (init := init) (hst.below hb1) hf.may hf.ne (by rw [hmm]; omega) (by omega) (by omega))
  have c0 := f1.at0
  have c00 := f1.at1
  have H1 := Lib.hid (And.intro hb1 (And.intro f1 (And.intro (hst.below hb1) (And.intro hf hmm))))
  clear hc hst hf hb1 f1 hmm
  go_enter Tryd.func12, Tryd.ntmps12
  go_upto_region 1 with fail
  rw [← hW1]
  clear hW1
  go_upto_region 3 with (go_at_call 30
                         (with_reducible refine QM.out.mono ?_)
                         go_loud (
                         rintro e' w2 ⟨rfl, hb2⟩
                         have H2 := Lib.hid hb2
                         clear hb2))
  clear c0 c00
  have HC : Hid (∀ W, Below w2.heap.size w2 W → FstB W w.heap.size (.slice ad m c) init) := Lib.hid fun W hb => FstB.kp H1.out.2.1 (Kp.below (M := fun _ => False) (H2.out.trans (hb.mono H2.out.size))) (fun h => h)
  obtain ⟨E0, hE0, q0⟩ := one_any (w := w2) (n := n) (x := (n : Int)) rfl (by omega)
  obtain ⟨E1, hE1, q1⟩ := one_any (w := w2) (n := m) (x := (m : Int)) rfl (by omega)
  have Q0 := Lib.hid q0
  have Q1 := Lib.hid q1
  clear q0 q1
  refine Said.region (by kernel_rfl) (by kernel_rfl) (by kernel_rfl) [.is (.int .i64 (n : Int)), .is (.int .u64 (n : Int)), .is (.string E0), .is (.string (⟨#[67, 83, 1]⟩ ++ E0)), .is (.pointer (some ⟨w.heap.size, 0, none⟩)), .is (.slice ad m c), .is (.int .i64 (m : Int)), .is (.int .u64 (m : Int)), .is (.string E1), .is (.string (⟨#[67, 83, 1]⟩ ++ E0 ++ E1)), .is (.string (⟨#[67, 83, 1]⟩ ++ E0 ++ E1))] ?_
  simp only [List.toList_toArray]
  iterate 2 (
    refine sq_pure (by rfl) (fun W hb _ => by (go_simp; all_goals first | done | omega | (rw [IntKind.wrap_u64]; omega))) ?_
    simp only [Act.put, List.setIfInBounds_toArray, List.set_cons_zero, List.set_cons_succ])
  refine sq_call (f := 31) (args := #[.int .u64 (n : Int)]) (by rfl) (fun W => by go_simp) (fun W hb _ => Q0.out W hb) ?_
  simp only [Act.put, List.setIfInBounds_toArray, List.set_cons_zero, List.set_cons_succ]
  iterate 5 (
    refine sq_pure (by rfl) (fun W hb _ => ?_) ?_
    · have y1 := (HC.out W hb).at0
      go_simp
      all_goals first | done | omega | (show (⟨#[67, 83, 1]⟩ : ByteArray).size + _ ≤ _; omega) | (rw [IntKind.wrap_u64]; omega)
    simp only [Act.put, List.setIfInBounds_toArray, List.set_cons_zero, List.set_cons_succ])
  refine sq_call (f := 31) (args := #[.int .u64 (m : Int)]) (by rfl) (fun W => by go_simp) (fun W hb _ => Q1.out W hb) ?_
  simp only [Act.put, List.setIfInBounds_toArray, List.set_cons_zero, List.set_cons_succ]
  iterate 2 (
    refine sq_pure (by rfl) (fun W hb _ => by (go_simp; all_goals first | done | omega | (rw [IntKind.wrap_u64]; omega))) ?_
    simp only [Act.put, List.setIfInBounds_toArray, List.set_cons_zero, List.set_cons_succ])
  refine sq_end (fun W3 hb3 hK3 => ?_)
  have hT0 : (⟨#[67, 83, 1]⟩ ++ E0 ++ E1 : ByteArray).size ≤ 21 := by rw [ba_size_append, ba_size_append]; show 3 + E0.size + E1.size ≤ 21; omega
  generalize (⟨#[67, 83, 1]⟩ ++ E0 ++ E1 : ByteArray) = T0 at hT0 ⊢
  have H3 := Lib.hid hb3
  clear hK3 hb3
  go_wp2
  go_loopw [6, 7] (fun s6 s7 wr => ∃ (k : Nat) (T : ByteArray), k ≤ m ∧ s6 = .string T ∧ s7 = .int .i64 k ∧ Hid (T.size ≤ 21 + k * 200) ∧ Hid (Below w2.heap.size w2 wr)) (fun _ s7 _ => m - (intOf s7).toNat)
  case atStart => exact ⟨0, T0, Nat.zero_le _, rfl, rfl, Lib.hid (by omega), Lib.hid H3.out⟩
  case round =>
    obtain ⟨k, T, hk, rfl, rfl, HT, HR⟩ := hrel
    have f2 := HC.out wr HR.out
    have c1 := f2.at0
    have c11 := f2.at1
    by_cases hlt : k < m
    · obtain ⟨ad', c', e, hc⟩ := (H1.out.2.2.1.below H2.out).below HR.out
      injection e with i1 i2 i3
      have hlk : k < l.length := by rw [H1.out.2.2.2.2]; exact hlt
      obtain ⟨b, o, had, u, h1, h2, h3, ea, qa, rfl, h4⟩ := hc k hlk
      have ha1 := i1.trans had
      subst ha1
      clear hc i1 i2 i3 had
      obtain ⟨m1, m2, m3⟩ := mayS_facts (mayS_in H1.out.2.2.2.1.may hlk)
      have hmem : stAt l k ∈ l := by rw [stAt_lt hlk]; exact List.getElem_mem hlk
      have hok := H1.out.2.2.2.1.ok _ hmem
      have ha6 := H1.out.2.2.2.1.arcs _ hmem
      obtain ⟨y, hy⟩ : ∃ y, stAt l k = y := ⟨_, rfl⟩
      rw [hy] at h1 h2 h3 h4 m3 hok ha6
      obtain ⟨na, hna⟩ : ∃ na, y.arcs.length = na := ⟨_, rfl⟩
      obtain ⟨f, hf⟩ : ∃ f, y.fin = f := ⟨_, rfl⟩
      obtain ⟨ou, hou⟩ : ∃ ou, y.out = ou := ⟨_, rfl⟩
      rw [hna] at h1 m3 h4 ha6
      rw [hf] at h2
      rw [hou] at h3
      have hou64 : ou < 18446744073709551616 := by rw [← hou]; exact hok.2
      have hoka : ∀ j, j < na → (arcAt y.arcs j).ok := fun j hj => by
        rw [arcAt_lt (by rw [hna]; exact hj)]
        exact hok.1 _ (List.getElem_mem _)
      have d1 : decide ((k : Int) < (m : Int)) = true := by simp; omega
      have il : (k : Int) < (m : Int) := by omega
      have HY := Lib.hid (And.intro h4 (And.intro m3 (And.intro f2 hoka)))
      have hsz := HR.out.size
      clear h4 m1 m2 m3 hy hna hf hou f2 hok hoka hmem hlk
      cases f
      · obtain ⟨W4, hW4⟩ : ∃ W4, W4 = wr.alloc (.cells #[.slice ea na qa, .bool false, .int .u64 (ou : Int)] 64) := ⟨_, rfl⟩
        obtain ⟨g, hg⟩ : ∃ g, g = wr.heap.size := ⟨_, rfl⟩
        have sb : StB W4 g (.slice ea na qa) false ou := by rw [hW4, hg]; exact heap_alloc_new wr _
        have bb : Below wr.heap.size wr W4 := by rw [hW4]; exact below_alloc _ _
        go_upto_region 10 with fail
        rw [← hW4, ← hg]
        obtain ⟨E2, hE2, q2⟩ := one_any (w := W4) (n := 2 * na) (x := 2 * (na : Int)) (by omega) (by omega)
        have Q2 := Lib.hid q2
        have HS : Hid (∀ W, Below W4.heap.size W4 W → StB W g (.slice ea na qa) false ou) := Lib.hid fun W hb => sb.kp (Kp.below (M := fun _ => False) hb) (fun h => h)
        have HB := Lib.hid bb
        have HT2 := Lib.hid (show (T ++ E2).size ≤ T.size + 18 by rw [ba_size_append]; omega)
        have y0 := sb.at0
        have hTs := HT.out
        have hcat : T.size + E2.size ≤ 9223372036854775807 := by omega
        clear q2 sb bb hW4 hg
        have w1 : IntKind.i64.wrap (2 * (na : Int)) = 2 * (na : Int) := by rw [IntWalk.i64_in _ (by omega)]
        have w2' : IntKind.u64.wrap (2 * (na : Int)) = 2 * (na : Int) := by rw [IntKind.wrap_u64]; omega
        go_upto_region 11 with (go_at_call 31
                                (with_reducible refine (Q2.out _ (Below.refl _ _)).mono ?_)
                                go_loud (
                                rintro e' W5 ⟨rfl, hb5⟩
                                have H5 := Lib.hid hb5
                                clear hb5))
        generalize (T ++ E2 : ByteArray) = T2 at HT2 ⊢
        clear w1 w2' hTs hcat y0
        go_wp2
        go_loopw [6, 9] (fun s6 s9 W => ∃ (j : Nat) (U : ByteArray), j ≤ na ∧ s6 = .string U ∧ s9 = .int .i64 j ∧ Hid (U.size ≤ T.size + 18 + j * 20) ∧ Hid (Below W4.heap.size W4 W)) (fun _ s9 _ => na - (intOf s9).toNat)
        case atStart => exact ⟨0, T2, Nat.zero_le _, rfl, rfl, Lib.hid (by have := HT2.out; omega), Lib.hid H5.out⟩
        case round =>
          obtain ⟨j, U, hj, rfl, rfl, HU, HJ⟩ := hrel
          have y0 := (HS.out wr HJ.out).at0
          by_cases hlj : j < na
          · have dj : decide ((j : Int) < (na : Int)) = true := by simp; omega
            have ij : (j : Int) < (na : Int) := by omega
            obtain ⟨b', o', e', hE⟩ := HY.out.1 j hlj
            subst e'
            obtain ⟨r2, r3, r4⟩ := hE.later (HB.out.trans (HJ.out.mono HB.out.size))
            obtain ⟨t1, t2⟩ := HY.out.2.1 j hlj
            obtain ⟨x1, x2, -, -⟩ := HY.out.2.2.2 j hlj
            obtain ⟨A, hA⟩ : ∃ A, arcAt y.arcs j = A := ⟨_, rfl⟩
            rw [hA] at r2 r3 r4 t1 t2 x1 x2
            obtain ⟨B, O, tt⟩ := A
            simp only at r2 r3 r4 t1 t2 x1 x2
            obtain ⟨d, hd⟩ : ∃ d : Nat, (k : Int) - tt = (d : Int) := ⟨((k : Int) - tt).toNat, by omega⟩
            have hdk : d ≤ k := by omega
            obtain ⟨Bs, hBs⟩ : ∃ Bs : ByteArray, Bs = ⟨#[UInt8.ofNat B]⟩ := ⟨_, rfl⟩
            have hBz : Bs.size = 1 := by rw [hBs]; rfl
            have HBs := Lib.hid hBs
            obtain ⟨p, hp⟩ : ∃ p, p = wr.heap.size := ⟨_, rfl⟩
            obtain ⟨W6, hW6⟩ : ∃ W6, W6 = wr.alloc (.cells #[.int .u8 (B : Int), .int .u64 (O : Int), .int .i64 tt] 66) := ⟨_, rfl⟩
            have ax : AxB W6 p B O tt := by rw [hW6, hp]; exact heap_alloc_new wr _
            have hb6 : Below wr.heap.size wr W6 := by rw [hW6]; exact below_alloc _ _
            have HX : Hid (∀ W, Below W6.heap.size W6 W → AxB W p B O tt) := Lib.hid fun W hb => ax.kp (Kp.below (M := fun _ => False) hb) (fun h => h)
            obtain ⟨F1, hF1, p1⟩ := one_any (w := W6) (n := O) (x := (O : Int)) rfl x2
            obtain ⟨F2, hF2, p2⟩ := one_any (w := W6) (n := d) (x := (d : Int)) rfl (by omega)
            have P1 := Lib.hid p1
            have P2 := Lib.hid p2
            have H6 := Lib.hid (HJ.out.trans (hb6.mono HJ.out.size))
            have HUZ := Lib.hid (show (U ++ Bs ++ F1 ++ F2).size ≤ U.size + 19 by rw [ba_size_append, ba_size_append, ba_size_append]; omega)
            clear hE hA hBs p1 p2 ax hb6
            go_upto_region 15 with fail
            rw [← hW6, ← hp]
            clear hW6 hp
            have hUs : U.size ≤ 4000 := by have := HU.out; have := HT.out; omega
            have w3 : IntKind.i64.wrap ((k : Int) - tt) = (d : Int) := by rw [IntWalk.i64_in _ (by omega)]; omega
            refine Said.region_tail (by kernel_rfl) 17 (by kernel_rfl) (by kernel_rfl) (by kernel_rfl) [.is (.string U), .is (.pointer (some ⟨p, 0, none⟩)), .is (.int .u8 (B : Int)), .has (fun v W => ∃ bb, v = .slice (some ⟨bb, 0, none⟩) 1 1 ∧ W.heap[bb]? = some (.cells #[.int .u8 (B : Int)] 5 (0, 0))),
              .is (.string Bs), .is (.string (U ++ Bs)), .is (.pointer (some ⟨p, 1, none⟩)), .is (.int .u64 (O : Int)), .is (.string F1), .is (.string (U ++ Bs ++ F1)), .is (.int .i64 (k : Int)), .is (.pointer (some ⟨p, 2, none⟩)), .is (.int .i64 tt), .is (.int .i64 (d : Int)), .is (.int .u64 (d : Int)), .is (.string F2), .is (.string (U ++ Bs ++ F1 ++ F2))] ?_
            simp only [List.toList_toArray, List.take_succ_cons, List.take_zero, List.drop_succ_cons, List.drop_zero]
            iterate 3 (
              refine sq_pure (by rfl) (fun W hb _ => ?_) ?_
              · have y1 := (HX.out W hb).at0
                go_simp
              simp only [Act.put, List.setIfInBounds_toArray, List.set_cons_zero, List.set_cons_succ])
            refine sq_has (one_mono B) (fun W hb _ => step_value (v := .slice (some ⟨W.heap.size, 0, none⟩) 1 1) (W' := W.alloc (.cells #[.int .u8 (B : Int)] 5)) (by rfl) (by go_simp) (below_alloc W _) ⟨W.heap.size, rfl, heap_alloc_new W _⟩) (fun v75 => ?_)
            simp only [Act.put, List.setIfInBounds_toArray, List.set_cons_zero, List.set_cons_succ]
            refine sq_pure (by rfl) (fun W hb hf => ?_) ?_
            · obtain ⟨bb, rfl, n1⟩ := hf.1 (by kernel_rfl)
              have cv := conv_one x1 n1
              rw [← HBs.out] at cv
              go_simp
            simp only [Act.put, List.setIfInBounds_toArray, List.set_cons_zero, List.set_cons_succ]
            iterate 3 (
              refine sq_pure (by rfl) (fun W hb _ => ?_) ?_
              · have y1 := (HX.out W hb).at1
                go_simp
                all_goals first | done | omega
              simp only [Act.put, List.setIfInBounds_toArray, List.set_cons_zero, List.set_cons_succ])
            refine sq_call (f := 31) (args := #[.int .u64 (O : Int)]) (by rfl) (fun W => by go_simp) (fun W hb _ => P1.out W hb) ?_
            simp only [Act.put, List.setIfInBounds_toArray, List.set_cons_zero, List.set_cons_succ]
            iterate 6 (
              refine sq_pure (by rfl) (fun W hb _ => ?_) ?_
              · have y1 := (HX.out W hb).at2
                go_simp
                all_goals first | done | omega | (rw [IntKind.wrap_u64]; omega) | (exact IntWalk.i64_in _ (by omega))
              simp only [Act.put, List.setIfInBounds_toArray, List.set_cons_zero, List.set_cons_succ])
            refine sq_call (f := 31) (args := #[.int .u64 (d : Int)]) (by rfl) (fun W => by go_simp) (fun W hb _ => P2.out W hb) ?_
            simp only [Act.put, List.setIfInBounds_toArray, List.set_cons_zero, List.set_cons_succ]
            refine sq_pure (by rfl) (fun W hb _ => by (go_simp; all_goals first | done | omega)) ?_
            simp only [Act.put, List.setIfInBounds_toArray, List.set_cons_zero, List.set_cons_succ]
            refine sq_end (fun W7 hb7 hK7 => ?_)
            generalize (U ++ Bs ++ F1 ++ F2 : ByteArray) = U2 at HUZ ⊢
            have H7 := Lib.hid (H6.out.trans (hb7.mono H6.out.size))
            clear hK7 hb7 w3
            go_wp2
            exact ⟨⟨j + 1, U2, by omega, rfl, by go_num, Lib.hid (by have := HUZ.out; have := HU.out; omega), H7⟩, by simp [intOf]; omega⟩
          · have hjn : j = na := by omega
            subst hjn
            have dj : decide ((j : Int) < (j : Int)) = false := by simp
            clear hlj
            go_wp2
            exact ⟨⟨k + 1, U, by omega, rfl, by go_num, Lib.hid (by have := HU.out; have := HT.out; omega), Lib.hid (HR.out.trans ((HB.out.trans (HJ.out.mono HB.out.size)).mono HR.out.size))⟩, by simp [intOf]; omega⟩
      · obtain ⟨W4, hW4⟩ : ∃ W4, W4 = wr.alloc (.cells #[.slice ea na qa, .bool true, .int .u64 (ou : Int)] 64) := ⟨_, rfl⟩
        obtain ⟨g, hg⟩ : ∃ g, g = wr.heap.size := ⟨_, rfl⟩
        have sb : StB W4 g (.slice ea na qa) true ou := by rw [hW4, hg]; exact heap_alloc_new wr _
        have bb : Below wr.heap.size wr W4 := by rw [hW4]; exact below_alloc _ _
        go_upto_region 9 with fail
        rw [← hW4, ← hg]
        obtain ⟨E2, hE2, q2⟩ := one_any (w := W4) (n := 2 * na + 1) (x := ((2 * na + 1 : Nat) : Int)) rfl (by omega)
        obtain ⟨E3, hE3, q3⟩ := one_any (w := W4) (n := ou) (x := (ou : Int)) rfl hou64
        have Q2 := Lib.hid q2
        have Q3 := Lib.hid q3
        have HS : Hid (∀ W, Below W4.heap.size W4 W → StB W g (.slice ea na qa) true ou) := Lib.hid fun W hb => sb.kp (Kp.below (M := fun _ => False) hb) (fun h => h)
        have HB := Lib.hid bb
        have HT2 := Lib.hid (show (T ++ E2 ++ E3).size ≤ T.size + 18 by rw [ba_size_append, ba_size_append]; omega)
        clear q2 q3 sb bb hW4 hg
        have w1 : IntKind.i64.wrap (2 * (na : Int)) = ((2 * na : Nat) : Int) := by rw [IntWalk.i64_in _ (by omega)]; omega
        have w2' : IntKind.i64.wrap (2 * (na : Int) + 1) = 2 * (na : Int) + 1 := by rw [IntWalk.i64_in _ (by omega)]
        have hTs := HT.out
        refine Said.region_tail (by kernel_rfl) 13 (by kernel_rfl) (by kernel_rfl) (by kernel_rfl) [.is (.string T), .is (.pointer (some ⟨g, 0, none⟩)), .is (.slice ea na qa), .is (.int .i64 (na : Int)), .is (.int .i64 ((2 * na : Nat) : Int)), .is (.int .i64 ((2 * na + 1 : Nat) : Int)), .is (.int .u64 ((2 * na + 1 : Nat) : Int)), .is (.string E2), .is (.string (T ++ E2)), .is (.pointer (some ⟨g, 2, none⟩)), .is (.int .u64 (ou : Int)), .is (.string E3), .is (.string (T ++ E2 ++ E3))] ?_
        simp only [List.toList_toArray, List.take_succ_cons, List.take_zero, List.drop_succ_cons, List.drop_zero]
        iterate 4 (
          refine sq_pure (by rfl) (fun W hb _ => ?_) ?_
          · have y1 := (HS.out W hb).at0
            go_simp
          simp only [Act.put, List.setIfInBounds_toArray, List.set_cons_zero, List.set_cons_succ])
        iterate 3 (
          refine sq_pure (by rfl) (fun W hb _ => ?_) ?_
          · go_simp
            all_goals first | done | omega | (rw [IntKind.wrap_u64]; omega)
          simp only [Act.put, List.setIfInBounds_toArray, List.set_cons_zero, List.set_cons_succ])
        refine sq_call (f := 31) (args := #[.int .u64 ((2 * na + 1 : Nat) : Int)]) (by rfl) (fun W => by go_simp) (fun W hb _ => Q2.out W hb) ?_
        simp only [Act.put, List.setIfInBounds_toArray, List.set_cons_zero, List.set_cons_succ]
        iterate 3 (
          refine sq_pure (by rfl) (fun W hb _ => ?_) ?_
          · have y1 := (HS.out W hb).at2
            go_simp
            all_goals first | done | omega
          simp only [Act.put, List.setIfInBounds_toArray, List.set_cons_zero, List.set_cons_succ])
        refine sq_call (f := 31) (args := #[.int .u64 (ou : Int)]) (by rfl) (fun W => by go_simp) (fun W hb _ => Q3.out W hb) ?_
        simp only [Act.put, List.setIfInBounds_toArray, List.set_cons_zero, List.set_cons_succ]
        iterate 1 (
          refine sq_pure (by rfl) (fun W hb _ => by (go_simp; all_goals first | done | omega | (rw [IntKind.wrap_u64]; omega))) ?_
          simp only [Act.put, List.setIfInBounds_toArray, List.set_cons_zero, List.set_cons_succ])
        refine sq_end (fun W5 hb5 hK5 => ?_)
        generalize (T ++ E2 ++ E3 : ByteArray) = T2 at HT2 ⊢
        have H5 := Lib.hid hb5
        clear hK5 hb5 w1 w2' hTs
        go_wp2
        go_loopw [6, 9] (fun s6 s9 W => ∃ (j : Nat) (U : ByteArray), j ≤ na ∧ s6 = .string U ∧ s9 = .int .i64 j ∧ Hid (U.size ≤ T.size + 18 + j * 20) ∧ Hid (Below W4.heap.size W4 W)) (fun _ s9 _ => na - (intOf s9).toNat)
        case atStart => exact ⟨0, T2, Nat.zero_le _, rfl, rfl, Lib.hid (by have := HT2.out; omega), Lib.hid H5.out⟩
        case round =>
          obtain ⟨j, U, hj, rfl, rfl, HU, HJ⟩ := hrel
          have y0 := (HS.out wr HJ.out).at0
          by_cases hlj : j < na
          · have dj : decide ((j : Int) < (na : Int)) = true := by simp; omega
            have ij : (j : Int) < (na : Int) := by omega
            obtain ⟨b', o', e', hE⟩ := HY.out.1 j hlj
            subst e'
            obtain ⟨r2, r3, r4⟩ := hE.later (HB.out.trans (HJ.out.mono HB.out.size))
            obtain ⟨t1, t2⟩ := HY.out.2.1 j hlj
            obtain ⟨x1, x2, -, -⟩ := HY.out.2.2.2 j hlj
            obtain ⟨A, hA⟩ : ∃ A, arcAt y.arcs j = A := ⟨_, rfl⟩
            rw [hA] at r2 r3 r4 t1 t2 x1 x2
            obtain ⟨B, O, tt⟩ := A
            simp only at r2 r3 r4 t1 t2 x1 x2
            obtain ⟨d, hd⟩ : ∃ d : Nat, (k : Int) - tt = (d : Int) := ⟨((k : Int) - tt).toNat, by omega⟩
            have hdk : d ≤ k := by omega
            obtain ⟨Bs, hBs⟩ : ∃ Bs : ByteArray, Bs = ⟨#[UInt8.ofNat B]⟩ := ⟨_, rfl⟩
            have hBz : Bs.size = 1 := by rw [hBs]; rfl
            have HBs := Lib.hid hBs
            obtain ⟨p, hp⟩ : ∃ p, p = wr.heap.size := ⟨_, rfl⟩
            obtain ⟨W6, hW6⟩ : ∃ W6, W6 = wr.alloc (.cells #[.int .u8 (B : Int), .int .u64 (O : Int), .int .i64 tt] 66) := ⟨_, rfl⟩
            have ax : AxB W6 p B O tt := by rw [hW6, hp]; exact heap_alloc_new wr _
            have hb6 : Below wr.heap.size wr W6 := by rw [hW6]; exact below_alloc _ _
            have HX : Hid (∀ W, Below W6.heap.size W6 W → AxB W p B O tt) := Lib.hid fun W hb => ax.kp (Kp.below (M := fun _ => False) hb) (fun h => h)
            obtain ⟨F1, hF1, p1⟩ := one_any (w := W6) (n := O) (x := (O : Int)) rfl x2
            obtain ⟨F2, hF2, p2⟩ := one_any (w := W6) (n := d) (x := (d : Int)) rfl (by omega)
            have P1 := Lib.hid p1
            have P2 := Lib.hid p2
            have H6 := Lib.hid (HJ.out.trans (hb6.mono HJ.out.size))
            have HUZ := Lib.hid (show (U ++ Bs ++ F1 ++ F2).size ≤ U.size + 19 by rw [ba_size_append, ba_size_append, ba_size_append]; omega)
            clear hE hA hBs p1 p2 ax hb6
            go_upto_region 15 with fail
            rw [← hW6, ← hp]
            clear hW6 hp
            have hUs : U.size ≤ 4000 := by have := HU.out; have := HT.out; omega
            have w3 : IntKind.i64.wrap ((k : Int) - tt) = (d : Int) := by rw [IntWalk.i64_in _ (by omega)]; omega
            refine Said.region_tail (by kernel_rfl) 17 (by kernel_rfl) (by kernel_rfl) (by kernel_rfl) [.is (.string U), .is (.pointer (some ⟨p, 0, none⟩)), .is (.int .u8 (B : Int)), .has (fun v W => ∃ bb, v = .slice (some ⟨bb, 0, none⟩) 1 1 ∧ W.heap[bb]? = some (.cells #[.int .u8 (B : Int)] 5 (0, 0))),
              .is (.string Bs), .is (.string (U ++ Bs)), .is (.pointer (some ⟨p, 1, none⟩)), .is (.int .u64 (O : Int)), .is (.string F1), .is (.string (U ++ Bs ++ F1)), .is (.int .i64 (k : Int)), .is (.pointer (some ⟨p, 2, none⟩)), .is (.int .i64 tt), .is (.int .i64 (d : Int)), .is (.int .u64 (d : Int)), .is (.string F2), .is (.string (U ++ Bs ++ F1 ++ F2))] ?_
            simp only [List.toList_toArray, List.take_succ_cons, List.take_zero, List.drop_succ_cons, List.drop_zero]
            iterate 3 (
              refine sq_pure (by rfl) (fun W hb _ => ?_) ?_
              · have y1 := (HX.out W hb).at0
                go_simp
              simp only [Act.put, List.setIfInBounds_toArray, List.set_cons_zero, List.set_cons_succ])
            refine sq_has (one_mono B) (fun W hb _ => step_value (v := .slice (some ⟨W.heap.size, 0, none⟩) 1 1) (W' := W.alloc (.cells #[.int .u8 (B : Int)] 5)) (by rfl) (by go_simp) (below_alloc W _) ⟨W.heap.size, rfl, heap_alloc_new W _⟩) (fun v75 => ?_)
            simp only [Act.put, List.setIfInBounds_toArray, List.set_cons_zero, List.set_cons_succ]
            refine sq_pure (by rfl) (fun W hb hf => ?_) ?_
            · obtain ⟨bb, rfl, n1⟩ := hf.1 (by kernel_rfl)
              have cv := conv_one x1 n1
              rw [← HBs.out] at cv
              go_simp
            simp only [Act.put, List.setIfInBounds_toArray, List.set_cons_zero, List.set_cons_succ]
            iterate 3 (
              refine sq_pure (by rfl) (fun W hb _ => ?_) ?_
              · have y1 := (HX.out W hb).at1
                go_simp
                all_goals first | done | omega
              simp only [Act.put, List.setIfInBounds_toArray, List.set_cons_zero, List.set_cons_succ])
            refine sq_call (f := 31) (args := #[.int .u64 (O : Int)]) (by rfl) (fun W => by go_simp) (fun W hb _ => P1.out W hb) ?_
            simp only [Act.put, List.setIfInBounds_toArray, List.set_cons_zero, List.set_cons_succ]
            iterate 6 (
              refine sq_pure (by rfl) (fun W hb _ => ?_) ?_
              · have y1 := (HX.out W hb).at2
                go_simp
                all_goals first | done | omega | (rw [IntKind.wrap_u64]; omega) | (exact IntWalk.i64_in _ (by omega))
              simp only [Act.put, List.setIfInBounds_toArray, List.set_cons_zero, List.set_cons_succ])
            refine sq_call (f := 31) (args := #[.int .u64 (d : Int)]) (by rfl) (fun W => by go_simp) (fun W hb _ => P2.out W hb) ?_
            simp only [Act.put, List.setIfInBounds_toArray, List.set_cons_zero, List.set_cons_succ]
            refine sq_pure (by rfl) (fun W hb _ => by (go_simp; all_goals first | done | omega)) ?_
            simp only [Act.put, List.setIfInBounds_toArray, List.set_cons_zero, List.set_cons_succ]
            refine sq_end (fun W7 hb7 hK7 => ?_)
            generalize (U ++ Bs ++ F1 ++ F2 : ByteArray) = U2 at HUZ ⊢
            have H7 := Lib.hid (H6.out.trans (hb7.mono H6.out.size))
            clear hK7 hb7 w3
            go_wp2
            exact ⟨⟨j + 1, U2, by omega, rfl, by go_num, Lib.hid (by have := HUZ.out; have := HU.out; omega), H7⟩, by simp [intOf]; omega⟩
          · have hjn : j = na := by omega
            subst hjn
            have dj : decide ((j : Int) < (j : Int)) = false := by simp
            clear hlj
            go_wp2
            exact ⟨⟨k + 1, U, by omega, rfl, by go_num, Lib.hid (by have := HU.out; have := HT.out; omega), Lib.hid (HR.out.trans ((HB.out.trans (HJ.out.mono HB.out.size)).mono HR.out.size))⟩, by simp [intOf]; omega⟩
    · have hkm : k = m := by omega
      subst hkm
      have d1 : decide ((k : Int) < (k : Int)) = false := by simp
      obtain ⟨E9, hE9, q9⟩ := one_any (w := wr) (n := init) (x := (init : Int)) rfl hi
      have Q9 := Lib.hid q9
      have hts : (T ++ E9).size ≤ 4000 := by rw [ba_size_append]; have := HT.out; omega
      have hcat : T.size + E9.size ≤ 9223372036854775807 := by rw [ba_size_append] at hts; omega
      have HQS := Lib.hid fun W => refSeal_any (T ++ E9) W (by omega)
      have HTS := Lib.hid hts
      clear hlt q9 hts
      go_wp2_with (first
        | (go_at_call 31
           (with_reducible refine (Q9.out _ (Below.refl _ _)).mono ?_)
           go_loud (
           rintro e' w8 ⟨rfl, hb8⟩
           have H8 := Lib.hid hb8
           clear hb8))
        | (go_at_call 17
           (with_reducible refine (HQS.out _).mono ?_)
           go_loud (
           rintro e' w9 ⟨rfl, hb9⟩
           have H9 := Lib.hid hb9
           clear hb9)))
      go_ret2
      exact ⟨⟨_, rfl, by rw [sealed_size]; have := HTS.out; omega⟩, H1.out.1.trans ((H2.out.trans ((HR.out.trans ((H8.out.trans (H9.out.mono H8.out.size)).mono HR.out.size)).mono H2.out.size)).mono H1.out.1.size)⟩
end Go.Proofs.YtjiilmiikejnhaaDoor
namespace Go.Proofs.YtjiilmiikejnhaaDoor
open Go.RowKit Go.Shelf Said

theorem one_is {w : World} {n : Nat} {x : Int} (hx : x = (n : Int)) (hn : n < 18446744073709551616) : ∃ E : ByteArray, E.size ≤ 9 ∧ E.data.toList = Plain.enc n ∧ ∀ W, Below w.heap.size w W → Calls Tryd.prog 31 #[.int .u64 x] W fun e w' => e = .returned (.string E) ∧ Below W.heap.size W w' := by
  subst hx
  refine ⟨⟨(Plain.enc n).toArray⟩, ?_, rfl, fun W _ => ?_⟩
  · show (Plain.enc n).toArray.size ≤ 9
    rw [List.size_toArray, Plain.enc_length]
    exact (Plain.size_bounds hn).2
  · have Q := Lib.hid (refPut_any n W hn)
    generalize (⟨(Plain.enc n).toArray⟩ : ByteArray) = E at Q ⊢
    go_enter Tryd.func31, Tryd.ntmps31
    go_wp2_with (go_at_call 51
                 (with_reducible refine Q.out.mono ?_)
                 go_loud (
                 rintro e' w1 ⟨rfl, hb1⟩
                 have H1 := Lib.hid hb1
                 clear hb1))
    go_ret
    exact ⟨rfl, H1.out⟩
theorem ba_of {a : ByteArray} {l : List UInt8} (h : a.data.toList = l) : a = ⟨l.toArray⟩ := by subst h; rfl

set_option maxHeartbeats 2000000 in
set_option maxRecDepth 100000 in
theorem refPut_not {w : World} {n : Int} {v : Value} {l : List DSt} {init : Nat} (h : Sts w v l) (hl : l.length ≤ 100000) (ha : ∀ s ∈ l, s.arcs.length ≤ 100000) (hm : mayT n l = false) :
    Calls Tryd.prog 12 #[.int .i64 n, .agg #[v, .int .u64 (init : Int)]] w fun e w' => e = .returned (.tuple #[.string ⟨#[]⟩, .int .i64 2]) ∧ Below w.heap.size w w' := by
  obtain ⟨ad, c, rfl, hc⟩ := id h
  obtain ⟨W1, hW1⟩ : ∃ W1, W1 = w.alloc (.cells #[.slice ad l.length c, .int .u64 (init : Int)] 25) := ⟨_, rfl⟩
  have hb1 : Below w.heap.size w W1 := by rw [hW1]; exact below_alloc _ _
  have f1 : FstB W1 w.heap.size (.slice ad l.length c) init := by rw [hW1]; exact heap_alloc_new w _
  have q := refMay_is (n := n) (init := init) (h.below hb1) hl ha
  rw [hm] at q
  have QM := Lib.hid q
  have c0 := f1.at0
  have c00 := f1.at1
  have H1 := Lib.hid hb1
  clear h hc hl ha hm q hb1 f1
  go_enter Tryd.func12, Tryd.ntmps12
  go_upto_region 1 with fail
  rw [← hW1]
  clear hW1
  go_wp2_with (go_at_call 30
               (with_reducible refine QM.out.mono ?_)
               go_loud (
               rintro e' w2 ⟨rfl, hb2⟩
               have H2 := Lib.hid (H1.out.trans (hb2.mono H1.out.size))
               clear hb2))
  go_ret2
  exact ⟨rfl, H2.out⟩

set_option maxHeartbeats 4000000 in
set_option maxRecDepth 100000 in
theorem refPut_yes {w : World} {n : Nat} {v : Value} {l : List DSt} {init : Nat} (h : Sts w v l) (hl : l.length ≤ 100000) (hm : mayT (n : Int) l = true) (hms : maySs 0 l = true) (hok : ∀ s ∈ l, s.ok) (hn : n ≤ 100000) (hi : init < 18446744073709551616) :
    Calls Tryd.prog 12 #[.int .i64 (n : Int), .agg #[v, .int .u64 (init : Int)]] w fun e w' => e = .returned (.tuple #[.string (sealed ⟨(layT n l init).toArray⟩), .int .i64 0]) ∧ Below w.heap.size w w' := by
  obtain ⟨Z, hZ⟩ : ∃ Z, sealed ⟨(layT n l init).toArray⟩ = Z := ⟨_, rfl⟩
  rw [hZ]
  have HZZ := Lib.hid hZ
  clear hZ
  have hst := h
  obtain ⟨ad, c, rfl, hc⟩ := h
  obtain ⟨m, hmm⟩ : ∃ m, l.length = m := ⟨_, rfl⟩
  rw [hmm] at hst ⊢
  have hm12 : m ≤ 100000 := by rw [← hmm]; exact hl
  obtain ⟨W1, hW1⟩ : ∃ W1, W1 = w.alloc (.cells #[.slice ad m c, .int .u64 (init : Int)] 25) := ⟨_, rfl⟩
  have hb1 : Below w.heap.size w W1 := by rw [hW1]; exact below_alloc _ _
  have f1 : FstB W1 w.heap.size (.slice ad m c) init := by rw [hW1]; exact heap_alloc_new w _
  have qm := refMay_is (n := (n : Int)) (init := init) (hst.below hb1) hl (fun s hs => Nat.le_trans (maySs_arcs hms s hs) (by omega))
  rw [hm] at qm
  have QM := Lib.hid qm
  have c0 := f1.at0
  have c00 := f1.at1
  have H1 := Lib.hid (And.intro hb1 (And.intro f1 (And.intro (hst.below hb1) (And.intro (And.intro hms hok) hmm))))
  clear hc hst hms hok hb1 f1 hl hm qm
  go_enter Tryd.func12, Tryd.ntmps12
  go_upto_region 1 with fail
  rw [← hW1]
  clear hW1
  go_upto_region 3 with (go_at_call 30
                         (with_reducible refine QM.out.mono ?_)
                         go_loud (
                         rintro e' w2 ⟨rfl, hb2⟩
                         have H2 := Lib.hid hb2
                         clear hb2))
  clear c0 c00
  have HC : Hid (∀ W, Below w2.heap.size w2 W → FstB W w.heap.size (.slice ad m c) init) := Lib.hid fun W hb => FstB.kp H1.out.2.1 (Kp.below (M := fun _ => False) (H2.out.trans (hb.mono H2.out.size))) (fun h => h)
  obtain ⟨E0, hE0, lhE0, q0⟩ := one_is (w := w2) (n := n) (x := (n : Int)) rfl (by omega)
  obtain ⟨E1, hE1, lhE1, q1⟩ := one_is (w := w2) (n := m) (x := (m : Int)) rfl (by omega)
  have Q0 := Lib.hid q0
  have Q1 := Lib.hid q1
  clear q0 q1
  refine Said.region (by kernel_rfl) (by kernel_rfl) (by kernel_rfl) [.is (.int .i64 (n : Int)), .is (.int .u64 (n : Int)), .is (.string E0), .is (.string (⟨#[67, 83, 1]⟩ ++ E0)), .is (.pointer (some ⟨w.heap.size, 0, none⟩)), .is (.slice ad m c), .is (.int .i64 (m : Int)), .is (.int .u64 (m : Int)), .is (.string E1), .is (.string (⟨#[67, 83, 1]⟩ ++ E0 ++ E1)), .is (.string (⟨#[67, 83, 1]⟩ ++ E0 ++ E1))] ?_
  simp only [List.toList_toArray]
  iterate 2 (
    refine sq_pure (by rfl) (fun W hb _ => by (go_simp; all_goals first | done | omega | (rw [IntKind.wrap_u64]; omega))) ?_
    simp only [Act.put, List.setIfInBounds_toArray, List.set_cons_zero, List.set_cons_succ])
  refine sq_call (f := 31) (args := #[.int .u64 (n : Int)]) (by rfl) (fun W => by go_simp) (fun W hb _ => Q0.out W hb) ?_
  simp only [Act.put, List.setIfInBounds_toArray, List.set_cons_zero, List.set_cons_succ]
  iterate 5 (
    refine sq_pure (by rfl) (fun W hb _ => ?_) ?_
    · have y1 := (HC.out W hb).at0
      go_simp
      all_goals first | done | omega | (show (⟨#[67, 83, 1]⟩ : ByteArray).size + _ ≤ _; omega) | (rw [IntKind.wrap_u64]; omega)
    simp only [Act.put, List.setIfInBounds_toArray, List.set_cons_zero, List.set_cons_succ])
  refine sq_call (f := 31) (args := #[.int .u64 (m : Int)]) (by rfl) (fun W => by go_simp) (fun W hb _ => Q1.out W hb) ?_
  simp only [Act.put, List.setIfInBounds_toArray, List.set_cons_zero, List.set_cons_succ]
  iterate 2 (
    refine sq_pure (by rfl) (fun W hb _ => by (go_simp; all_goals first | done | omega | (rw [IntKind.wrap_u64]; omega))) ?_
    simp only [Act.put, List.setIfInBounds_toArray, List.set_cons_zero, List.set_cons_succ])
  refine sq_end (fun W3 hb3 hK3 => ?_)
  have hT0 : (⟨#[67, 83, 1]⟩ ++ E0 ++ E1 : ByteArray).size ≤ 21 := by rw [ba_size_append, ba_size_append]; show 3 + E0.size + E1.size ≤ 21; omega
  have hX0 : (⟨#[67, 83, 1]⟩ ++ E0 ++ E1 : ByteArray).data.toList = magicL ++ (Plain.enc n ++ Plain.enc m) := by
    rw [ba_append, ba_append, lhE0, lhE1, List.append_assoc]
    rfl
  generalize (⟨#[67, 83, 1]⟩ ++ E0 ++ E1 : ByteArray) = T0 at hT0 hX0 ⊢
  have HX0 := Lib.hid hX0
  clear hX0 lhE0 lhE1
  have H3 := Lib.hid hb3
  clear hK3 hb3
  go_wp2
  go_loopw [6, 7] (fun s6 s7 wr => ∃ (k : Nat) (T : ByteArray), k ≤ m ∧ s6 = .string T ∧ s7 = .int .i64 k ∧ Hid (T.size ≤ 21 + k * 6000 ∧ T.data.toList = magicL ++ (Plain.enc n ++ Plain.enc m) ++ laySs 0 (l.take k)) ∧ Hid (Below w2.heap.size w2 wr)) (fun _ s7 _ => m - (intOf s7).toNat)
  case atStart => exact ⟨0, T0, Nat.zero_le _, rfl, rfl, Lib.hid ⟨by omega, by rw [HX0.out]; simp [laySs]⟩, Lib.hid H3.out⟩
  case round =>
    obtain ⟨k, T, hk, rfl, rfl, HT, HR⟩ := hrel
    have f2 := HC.out wr HR.out
    have c1 := f2.at0
    have c11 := f2.at1
    by_cases hlt : k < m
    · obtain ⟨ad', c', e, hc⟩ := (H1.out.2.2.1.below H2.out).below HR.out
      injection e with i1 i2 i3
      have hlk : k < l.length := by rw [H1.out.2.2.2.2]; exact hlt
      obtain ⟨b, o, had, u, h1, h2, h3, ea, qa, rfl, h4⟩ := hc k hlk
      have ha1 := i1.trans had
      subst ha1
      clear hc i1 i2 i3 had
      obtain ⟨m1, m2, m3⟩ := mayS_facts (mayS_in H1.out.2.2.2.1.1 hlk)
      have hmem : stAt l k ∈ l := by rw [stAt_lt hlk]; exact List.getElem_mem hlk
      have hok := H1.out.2.2.2.1.2 _ hmem
      have ha6 := m1
      obtain ⟨y, hy⟩ : ∃ y, stAt l k = y := ⟨_, rfl⟩
      rw [hy] at h1 h2 h3 h4 m3 hok ha6
      obtain ⟨na, hna⟩ : ∃ na, y.arcs.length = na := ⟨_, rfl⟩
      obtain ⟨f, hf⟩ : ∃ f, y.fin = f := ⟨_, rfl⟩
      obtain ⟨ou, hou⟩ : ∃ ou, y.out = ou := ⟨_, rfl⟩
      rw [hna] at h1 m3 h4 ha6
      rw [hf] at h2
      rw [hou] at h3
      have hou64 : ou < 18446744073709551616 := by rw [← hou]; exact hok.2
      have hoka : ∀ j, j < na → (arcAt y.arcs j).ok := fun j hj => by
        rw [arcAt_lt (by rw [hna]; exact hj)]
        exact hok.1 _ (List.getElem_mem _)
      have d1 : decide ((k : Int) < (m : Int)) = true := by simp; omega
      have il : (k : Int) < (m : Int) := by omega
      have HY := Lib.hid (And.intro h4 (And.intro m3 (And.intro f2 hoka)))
      have HEQ := Lib.hid (And.intro hna (And.intro hf (And.intro hou hy)))
      have hsz := HR.out.size
      clear h4 m2 m3 hy hna hf hou f2 hok hoka hmem hlk
      cases f
      · obtain ⟨W4, hW4⟩ : ∃ W4, W4 = wr.alloc (.cells #[.slice ea na qa, .bool false, .int .u64 (ou : Int)] 64) := ⟨_, rfl⟩
        obtain ⟨g, hg⟩ : ∃ g, g = wr.heap.size := ⟨_, rfl⟩
        have sb : StB W4 g (.slice ea na qa) false ou := by rw [hW4, hg]; exact heap_alloc_new wr _
        have bb : Below wr.heap.size wr W4 := by rw [hW4]; exact below_alloc _ _
        go_upto_region 10 with fail
        rw [← hW4, ← hg]
        obtain ⟨E2, hE2, lhE2, q2⟩ := one_is (w := W4) (n := 2 * na) (x := 2 * (na : Int)) (by omega) (by omega)
        have Q2 := Lib.hid q2
        have HS : Hid (∀ W, Below W4.heap.size W4 W → StB W g (.slice ea na qa) false ou) := Lib.hid fun W hb => sb.kp (Kp.below (M := fun _ => False) hb) (fun h => h)
        have HB := Lib.hid bb
        have HT2 := Lib.hid (show (T ++ E2).size ≤ T.size + 18 ∧ (T ++ E2).data.toList = T.data.toList ++ headS y from ⟨by rw [ba_size_append]; omega, by
          rw [ba_append, lhE2]
          unfold headS
          rw [HEQ.out.1, HEQ.out.2.1]
          rfl⟩)
        have y0 := sb.at0
        have hTs := HT.out.1
        have hcat : T.size + E2.size ≤ 9223372036854775807 := by omega
        clear q2 sb bb hW4 hg lhE2
        have w1 : IntKind.i64.wrap (2 * (na : Int)) = 2 * (na : Int) := by rw [IntWalk.i64_in _ (by omega)]
        have w2' : IntKind.u64.wrap (2 * (na : Int)) = 2 * (na : Int) := by rw [IntKind.wrap_u64]; omega
        go_upto_region 11 with (go_at_call 31
                                (with_reducible refine (Q2.out _ (Below.refl _ _)).mono ?_)
                                go_loud (
                                rintro e' W5 ⟨rfl, hb5⟩
                                have H5 := Lib.hid hb5
                                clear hb5))
        generalize (T ++ E2 : ByteArray) = T2 at HT2 ⊢
        clear w1 w2' hTs hcat y0
        go_wp2
        go_loopw [6, 9] (fun s6 s9 W => ∃ (j : Nat) (U : ByteArray), j ≤ na ∧ s6 = .string U ∧ s9 = .int .i64 j ∧ Hid (U.size ≤ T.size + 18 + j * 20 ∧ U.data.toList = T.data.toList ++ headS y ++ (y.arcs.take j).flatMap (layA k)) ∧ Hid (Below W4.heap.size W4 W)) (fun _ s9 _ => na - (intOf s9).toNat)
        case atStart => exact ⟨0, T2, Nat.zero_le _, rfl, rfl, Lib.hid ⟨by have := HT2.out.1; omega, by rw [HT2.out.2]; simp⟩, Lib.hid H5.out⟩
        case round =>
          obtain ⟨j, U, hj, rfl, rfl, HU, HJ⟩ := hrel
          have y0 := (HS.out wr HJ.out).at0
          by_cases hlj : j < na
          · have dj : decide ((j : Int) < (na : Int)) = true := by simp; omega
            have ij : (j : Int) < (na : Int) := by omega
            obtain ⟨b', o', e', hE⟩ := HY.out.1 j hlj
            subst e'
            obtain ⟨r2, r3, r4⟩ := hE.later (HB.out.trans (HJ.out.mono HB.out.size))
            obtain ⟨t1, t2⟩ := HY.out.2.1 j hlj
            obtain ⟨x1, x2, -, -⟩ := HY.out.2.2.2 j hlj
            obtain ⟨A, hA⟩ : ∃ A, arcAt y.arcs j = A := ⟨_, rfl⟩
            rw [hA] at r2 r3 r4 t1 t2 x1 x2
            obtain ⟨B, O, tt⟩ := A
            have HAE := Lib.hid hA
            simp only at r2 r3 r4 t1 t2 x1 x2
            obtain ⟨d, hd⟩ : ∃ d : Nat, (k : Int) - tt = (d : Int) := ⟨((k : Int) - tt).toNat, by omega⟩
            have hdk : d ≤ k := by omega
            obtain ⟨Bs, hBs⟩ : ∃ Bs : ByteArray, Bs = ⟨#[UInt8.ofNat B]⟩ := ⟨_, rfl⟩
            have hBz : Bs.size = 1 := by rw [hBs]; rfl
            have HBs := Lib.hid hBs
            obtain ⟨p, hp⟩ : ∃ p, p = wr.heap.size := ⟨_, rfl⟩
            obtain ⟨W6, hW6⟩ : ∃ W6, W6 = wr.alloc (.cells #[.int .u8 (B : Int), .int .u64 (O : Int), .int .i64 tt] 66) := ⟨_, rfl⟩
            have ax : AxB W6 p B O tt := by rw [hW6, hp]; exact heap_alloc_new wr _
            have hb6 : Below wr.heap.size wr W6 := by rw [hW6]; exact below_alloc _ _
            have HX : Hid (∀ W, Below W6.heap.size W6 W → AxB W p B O tt) := Lib.hid fun W hb => ax.kp (Kp.below (M := fun _ => False) hb) (fun h => h)
            obtain ⟨F1, hF1, lhF1, p1⟩ := one_is (w := W6) (n := O) (x := (O : Int)) rfl x2
            obtain ⟨F2, hF2, lhF2, p2⟩ := one_is (w := W6) (n := d) (x := (d : Int)) rfl (by omega)
            have P1 := Lib.hid p1
            have P2 := Lib.hid p2
            have H6 := Lib.hid (HJ.out.trans (hb6.mono HJ.out.size))
            have HUZ := Lib.hid (show (U ++ Bs ++ F1 ++ F2).size ≤ U.size + 19 ∧ (U ++ Bs ++ F1 ++ F2).data.toList = U.data.toList ++ layA k (arcAt y.arcs j) from ⟨by rw [ba_size_append, ba_size_append, ba_size_append]; omega, by
              rw [ba_append, ba_append, ba_append, lhF1, lhF2, hBs, HAE.out]
              unfold layA
              rw [hd]
              simp⟩)
            clear hE hA hBs p1 p2 ax hb6 lhF1 lhF2
            go_upto_region 15 with fail
            rw [← hW6, ← hp]
            clear hW6 hp
            have hUs : U.size ≤ 800000000 := by have := HU.out.1; have := HT.out.1; omega
            have w3 : IntKind.i64.wrap ((k : Int) - tt) = (d : Int) := by rw [IntWalk.i64_in _ (by omega)]; omega
            refine Said.region_tail (by kernel_rfl) 17 (by kernel_rfl) (by kernel_rfl) (by kernel_rfl) [.is (.string U), .is (.pointer (some ⟨p, 0, none⟩)), .is (.int .u8 (B : Int)), .has (fun v W => ∃ bb, v = .slice (some ⟨bb, 0, none⟩) 1 1 ∧ W.heap[bb]? = some (.cells #[.int .u8 (B : Int)] 5 (0, 0))),
              .is (.string Bs), .is (.string (U ++ Bs)), .is (.pointer (some ⟨p, 1, none⟩)), .is (.int .u64 (O : Int)), .is (.string F1), .is (.string (U ++ Bs ++ F1)), .is (.int .i64 (k : Int)), .is (.pointer (some ⟨p, 2, none⟩)), .is (.int .i64 tt), .is (.int .i64 (d : Int)), .is (.int .u64 (d : Int)), .is (.string F2), .is (.string (U ++ Bs ++ F1 ++ F2))] ?_
            simp only [List.toList_toArray, List.take_succ_cons, List.take_zero, List.drop_succ_cons, List.drop_zero]
            iterate 3 (
              refine sq_pure (by rfl) (fun W hb _ => ?_) ?_
              · have y1 := (HX.out W hb).at0
                go_simp
              simp only [Act.put, List.setIfInBounds_toArray, List.set_cons_zero, List.set_cons_succ])
            refine sq_has (one_mono B) (fun W hb _ => step_value (v := .slice (some ⟨W.heap.size, 0, none⟩) 1 1) (W' := W.alloc (.cells #[.int .u8 (B : Int)] 5)) (by rfl) (by go_simp) (below_alloc W _) ⟨W.heap.size, rfl, heap_alloc_new W _⟩) (fun v75 => ?_)
            simp only [Act.put, List.setIfInBounds_toArray, List.set_cons_zero, List.set_cons_succ]
            refine sq_pure (by rfl) (fun W hb hf => ?_) ?_
            · obtain ⟨bb, rfl, n1⟩ := hf.1 (by kernel_rfl)
              have cv := conv_one x1 n1
              rw [← HBs.out] at cv
              go_simp
            simp only [Act.put, List.setIfInBounds_toArray, List.set_cons_zero, List.set_cons_succ]
            iterate 3 (
              refine sq_pure (by rfl) (fun W hb _ => ?_) ?_
              · have y1 := (HX.out W hb).at1
                go_simp
                all_goals first | done | omega
              simp only [Act.put, List.setIfInBounds_toArray, List.set_cons_zero, List.set_cons_succ])
            refine sq_call (f := 31) (args := #[.int .u64 (O : Int)]) (by rfl) (fun W => by go_simp) (fun W hb _ => P1.out W hb) ?_
            simp only [Act.put, List.setIfInBounds_toArray, List.set_cons_zero, List.set_cons_succ]
            iterate 6 (
              refine sq_pure (by rfl) (fun W hb _ => ?_) ?_
              · have y1 := (HX.out W hb).at2
                go_simp
                all_goals first | done | omega | (rw [IntKind.wrap_u64]; omega) | (exact IntWalk.i64_in _ (by omega))
              simp only [Act.put, List.setIfInBounds_toArray, List.set_cons_zero, List.set_cons_succ])
            refine sq_call (f := 31) (args := #[.int .u64 (d : Int)]) (by rfl) (fun W => by go_simp) (fun W hb _ => P2.out W hb) ?_
            simp only [Act.put, List.setIfInBounds_toArray, List.set_cons_zero, List.set_cons_succ]
            refine sq_pure (by rfl) (fun W hb _ => by (go_simp; all_goals first | done | omega)) ?_
            simp only [Act.put, List.setIfInBounds_toArray, List.set_cons_zero, List.set_cons_succ]
            refine sq_end (fun W7 hb7 hK7 => ?_)
            generalize (U ++ Bs ++ F1 ++ F2 : ByteArray) = U2 at HUZ ⊢
            have H7 := Lib.hid (H6.out.trans (hb7.mono H6.out.size))
            clear hK7 hb7 w3
            go_wp2
            exact ⟨⟨j + 1, U2, by omega, rfl, by go_num, Lib.hid ⟨by have := HUZ.out.1; have := HU.out.1; omega, by
              have hjl : j < y.arcs.length := by rw [HEQ.out.1]; exact hlj
              rw [HUZ.out.2, HU.out.2, List.take_succ_eq_append_getElem hjl, List.flatMap_append, arcAt_lt hjl]
              simp⟩, H7⟩, by simp [intOf]; omega⟩
          · have hjn : j = na := by omega
            subst hjn
            have dj : decide ((j : Int) < (j : Int)) = false := by simp
            clear hlj
            go_wp2
            exact ⟨⟨k + 1, U, by omega, rfl, by go_num, Lib.hid ⟨by have := HU.out.1; have := HT.out.1; omega, by
              have hlk : k < l.length := by rw [H1.out.2.2.2.2]; exact hlt
              rw [HU.out.2, laySs_take hlk, Nat.zero_add, HEQ.out.2.2.2, HT.out.2, ← HEQ.out.1, List.take_length]
              unfold layS
              simp⟩, Lib.hid (HR.out.trans ((HB.out.trans (HJ.out.mono HB.out.size)).mono HR.out.size))⟩, by simp [intOf]; omega⟩
      · obtain ⟨W4, hW4⟩ : ∃ W4, W4 = wr.alloc (.cells #[.slice ea na qa, .bool true, .int .u64 (ou : Int)] 64) := ⟨_, rfl⟩
        obtain ⟨g, hg⟩ : ∃ g, g = wr.heap.size := ⟨_, rfl⟩
        have sb : StB W4 g (.slice ea na qa) true ou := by rw [hW4, hg]; exact heap_alloc_new wr _
        have bb : Below wr.heap.size wr W4 := by rw [hW4]; exact below_alloc _ _
        go_upto_region 9 with fail
        rw [← hW4, ← hg]
        obtain ⟨E2, hE2, lhE2, q2⟩ := one_is (w := W4) (n := 2 * na + 1) (x := ((2 * na + 1 : Nat) : Int)) rfl (by omega)
        obtain ⟨E3, hE3, lhE3, q3⟩ := one_is (w := W4) (n := ou) (x := (ou : Int)) rfl hou64
        have Q2 := Lib.hid q2
        have Q3 := Lib.hid q3
        have HS : Hid (∀ W, Below W4.heap.size W4 W → StB W g (.slice ea na qa) true ou) := Lib.hid fun W hb => sb.kp (Kp.below (M := fun _ => False) hb) (fun h => h)
        have HB := Lib.hid bb
        have HT2 := Lib.hid (show (T ++ E2 ++ E3).size ≤ T.size + 18 ∧ (T ++ E2 ++ E3).data.toList = T.data.toList ++ headS y from ⟨by rw [ba_size_append, ba_size_append]; omega, by
          rw [ba_append, ba_append, lhE2, lhE3, List.append_assoc]
          unfold headS
          rw [HEQ.out.1, HEQ.out.2.1, HEQ.out.2.2.1]
          rfl⟩)
        clear q2 q3 sb bb hW4 hg lhE2 lhE3
        have w1 : IntKind.i64.wrap (2 * (na : Int)) = ((2 * na : Nat) : Int) := by rw [IntWalk.i64_in _ (by omega)]; omega
        have w2' : IntKind.i64.wrap (2 * (na : Int) + 1) = 2 * (na : Int) + 1 := by rw [IntWalk.i64_in _ (by omega)]
        have hTs := HT.out.1
        refine Said.region_tail (by kernel_rfl) 13 (by kernel_rfl) (by kernel_rfl) (by kernel_rfl) [.is (.string T), .is (.pointer (some ⟨g, 0, none⟩)), .is (.slice ea na qa), .is (.int .i64 (na : Int)), .is (.int .i64 ((2 * na : Nat) : Int)), .is (.int .i64 ((2 * na + 1 : Nat) : Int)), .is (.int .u64 ((2 * na + 1 : Nat) : Int)), .is (.string E2), .is (.string (T ++ E2)), .is (.pointer (some ⟨g, 2, none⟩)), .is (.int .u64 (ou : Int)), .is (.string E3), .is (.string (T ++ E2 ++ E3))] ?_
        simp only [List.toList_toArray, List.take_succ_cons, List.take_zero, List.drop_succ_cons, List.drop_zero]
        iterate 4 (
          refine sq_pure (by rfl) (fun W hb _ => ?_) ?_
          · have y1 := (HS.out W hb).at0
            go_simp
          simp only [Act.put, List.setIfInBounds_toArray, List.set_cons_zero, List.set_cons_succ])
        iterate 3 (
          refine sq_pure (by rfl) (fun W hb _ => ?_) ?_
          · go_simp
            all_goals first | done | omega | (rw [IntKind.wrap_u64]; omega)
          simp only [Act.put, List.setIfInBounds_toArray, List.set_cons_zero, List.set_cons_succ])
        refine sq_call (f := 31) (args := #[.int .u64 ((2 * na + 1 : Nat) : Int)]) (by rfl) (fun W => by go_simp) (fun W hb _ => Q2.out W hb) ?_
        simp only [Act.put, List.setIfInBounds_toArray, List.set_cons_zero, List.set_cons_succ]
        iterate 3 (
          refine sq_pure (by rfl) (fun W hb _ => ?_) ?_
          · have y1 := (HS.out W hb).at2
            go_simp
            all_goals first | done | omega
          simp only [Act.put, List.setIfInBounds_toArray, List.set_cons_zero, List.set_cons_succ])
        refine sq_call (f := 31) (args := #[.int .u64 (ou : Int)]) (by rfl) (fun W => by go_simp) (fun W hb _ => Q3.out W hb) ?_
        simp only [Act.put, List.setIfInBounds_toArray, List.set_cons_zero, List.set_cons_succ]
        iterate 1 (
          refine sq_pure (by rfl) (fun W hb _ => by (go_simp; all_goals first | done | omega | (rw [IntKind.wrap_u64]; omega))) ?_
          simp only [Act.put, List.setIfInBounds_toArray, List.set_cons_zero, List.set_cons_succ])
        refine sq_end (fun W5 hb5 hK5 => ?_)
        generalize (T ++ E2 ++ E3 : ByteArray) = T2 at HT2 ⊢
        have H5 := Lib.hid hb5
        clear hK5 hb5 w1 w2' hTs
        go_wp2
        go_loopw [6, 9] (fun s6 s9 W => ∃ (j : Nat) (U : ByteArray), j ≤ na ∧ s6 = .string U ∧ s9 = .int .i64 j ∧ Hid (U.size ≤ T.size + 18 + j * 20 ∧ U.data.toList = T.data.toList ++ headS y ++ (y.arcs.take j).flatMap (layA k)) ∧ Hid (Below W4.heap.size W4 W)) (fun _ s9 _ => na - (intOf s9).toNat)
        case atStart => exact ⟨0, T2, Nat.zero_le _, rfl, rfl, Lib.hid ⟨by have := HT2.out.1; omega, by rw [HT2.out.2]; simp⟩, Lib.hid H5.out⟩
        case round =>
          obtain ⟨j, U, hj, rfl, rfl, HU, HJ⟩ := hrel
          have y0 := (HS.out wr HJ.out).at0
          by_cases hlj : j < na
          · have dj : decide ((j : Int) < (na : Int)) = true := by simp; omega
            have ij : (j : Int) < (na : Int) := by omega
            obtain ⟨b', o', e', hE⟩ := HY.out.1 j hlj
            subst e'
            obtain ⟨r2, r3, r4⟩ := hE.later (HB.out.trans (HJ.out.mono HB.out.size))
            obtain ⟨t1, t2⟩ := HY.out.2.1 j hlj
            obtain ⟨x1, x2, -, -⟩ := HY.out.2.2.2 j hlj
            obtain ⟨A, hA⟩ : ∃ A, arcAt y.arcs j = A := ⟨_, rfl⟩
            rw [hA] at r2 r3 r4 t1 t2 x1 x2
            obtain ⟨B, O, tt⟩ := A
            have HAE := Lib.hid hA
            simp only at r2 r3 r4 t1 t2 x1 x2
            obtain ⟨d, hd⟩ : ∃ d : Nat, (k : Int) - tt = (d : Int) := ⟨((k : Int) - tt).toNat, by omega⟩
            have hdk : d ≤ k := by omega
            obtain ⟨Bs, hBs⟩ : ∃ Bs : ByteArray, Bs = ⟨#[UInt8.ofNat B]⟩ := ⟨_, rfl⟩
            have hBz : Bs.size = 1 := by rw [hBs]; rfl
            have HBs := Lib.hid hBs
            obtain ⟨p, hp⟩ : ∃ p, p = wr.heap.size := ⟨_, rfl⟩
            obtain ⟨W6, hW6⟩ : ∃ W6, W6 = wr.alloc (.cells #[.int .u8 (B : Int), .int .u64 (O : Int), .int .i64 tt] 66) := ⟨_, rfl⟩
            have ax : AxB W6 p B O tt := by rw [hW6, hp]; exact heap_alloc_new wr _
            have hb6 : Below wr.heap.size wr W6 := by rw [hW6]; exact below_alloc _ _
            have HX : Hid (∀ W, Below W6.heap.size W6 W → AxB W p B O tt) := Lib.hid fun W hb => ax.kp (Kp.below (M := fun _ => False) hb) (fun h => h)
            obtain ⟨F1, hF1, lhF1, p1⟩ := one_is (w := W6) (n := O) (x := (O : Int)) rfl x2
            obtain ⟨F2, hF2, lhF2, p2⟩ := one_is (w := W6) (n := d) (x := (d : Int)) rfl (by omega)
            have P1 := Lib.hid p1
            have P2 := Lib.hid p2
            have H6 := Lib.hid (HJ.out.trans (hb6.mono HJ.out.size))
            have HUZ := Lib.hid (show (U ++ Bs ++ F1 ++ F2).size ≤ U.size + 19 ∧ (U ++ Bs ++ F1 ++ F2).data.toList = U.data.toList ++ layA k (arcAt y.arcs j) from ⟨by rw [ba_size_append, ba_size_append, ba_size_append]; omega, by
              rw [ba_append, ba_append, ba_append, lhF1, lhF2, hBs, HAE.out]
              unfold layA
              rw [hd]
              simp⟩)
            clear hE hA hBs p1 p2 ax hb6 lhF1 lhF2
            go_upto_region 15 with fail
            rw [← hW6, ← hp]
            clear hW6 hp
            have hUs : U.size ≤ 800000000 := by have := HU.out.1; have := HT.out.1; omega
            have w3 : IntKind.i64.wrap ((k : Int) - tt) = (d : Int) := by rw [IntWalk.i64_in _ (by omega)]; omega
            refine Said.region_tail (by kernel_rfl) 17 (by kernel_rfl) (by kernel_rfl) (by kernel_rfl) [.is (.string U), .is (.pointer (some ⟨p, 0, none⟩)), .is (.int .u8 (B : Int)), .has (fun v W => ∃ bb, v = .slice (some ⟨bb, 0, none⟩) 1 1 ∧ W.heap[bb]? = some (.cells #[.int .u8 (B : Int)] 5 (0, 0))),
              .is (.string Bs), .is (.string (U ++ Bs)), .is (.pointer (some ⟨p, 1, none⟩)), .is (.int .u64 (O : Int)), .is (.string F1), .is (.string (U ++ Bs ++ F1)), .is (.int .i64 (k : Int)), .is (.pointer (some ⟨p, 2, none⟩)), .is (.int .i64 tt), .is (.int .i64 (d : Int)), .is (.int .u64 (d : Int)), .is (.string F2), .is (.string (U ++ Bs ++ F1 ++ F2))] ?_
            simp only [List.toList_toArray, List.take_succ_cons, List.take_zero, List.drop_succ_cons, List.drop_zero]
            iterate 3 (
              refine sq_pure (by rfl) (fun W hb _ => ?_) ?_
              · have y1 := (HX.out W hb).at0
                go_simp
              simp only [Act.put, List.setIfInBounds_toArray, List.set_cons_zero, List.set_cons_succ])
            refine sq_has (one_mono B) (fun W hb _ => step_value (v := .slice (some ⟨W.heap.size, 0, none⟩) 1 1) (W' := W.alloc (.cells #[.int .u8 (B : Int)] 5)) (by rfl) (by go_simp) (below_alloc W _) ⟨W.heap.size, rfl, heap_alloc_new W _⟩) (fun v75 => ?_)
            simp only [Act.put, List.setIfInBounds_toArray, List.set_cons_zero, List.set_cons_succ]
            refine sq_pure (by rfl) (fun W hb hf => ?_) ?_
            · obtain ⟨bb, rfl, n1⟩ := hf.1 (by kernel_rfl)
              have cv := conv_one x1 n1
              rw [← HBs.out] at cv
              go_simp
            simp only [Act.put, List.setIfInBounds_toArray, List.set_cons_zero, List.set_cons_succ]
            iterate 3 (
              refine sq_pure (by rfl) (fun W hb _ => ?_) ?_
              · have y1 := (HX.out W hb).at1
                go_simp
                all_goals first | done | omega
              simp only [Act.put, List.setIfInBounds_toArray, List.set_cons_zero, List.set_cons_succ])
            refine sq_call (f := 31) (args := #[.int .u64 (O : Int)]) (by rfl) (fun W => by go_simp) (fun W hb _ => P1.out W hb) ?_
            simp only [Act.put, List.setIfInBounds_toArray, List.set_cons_zero, List.set_cons_succ]
            iterate 6 (
              refine sq_pure (by rfl) (fun W hb _ => ?_) ?_
              · have y1 := (HX.out W hb).at2
                go_simp
                all_goals first | done | omega | (rw [IntKind.wrap_u64]; omega) | (exact IntWalk.i64_in _ (by omega))
              simp only [Act.put, List.setIfInBounds_toArray, List.set_cons_zero, List.set_cons_succ])
            refine sq_call (f := 31) (args := #[.int .u64 (d : Int)]) (by rfl) (fun W => by go_simp) (fun W hb _ => P2.out W hb) ?_
            simp only [Act.put, List.setIfInBounds_toArray, List.set_cons_zero, List.set_cons_succ]
            refine sq_pure (by rfl) (fun W hb _ => by (go_simp; all_goals first | done | omega)) ?_
            simp only [Act.put, List.setIfInBounds_toArray, List.set_cons_zero, List.set_cons_succ]
            refine sq_end (fun W7 hb7 hK7 => ?_)
            generalize (U ++ Bs ++ F1 ++ F2 : ByteArray) = U2 at HUZ ⊢
            have H7 := Lib.hid (H6.out.trans (hb7.mono H6.out.size))
            clear hK7 hb7 w3
            go_wp2
            exact ⟨⟨j + 1, U2, by omega, rfl, by go_num, Lib.hid ⟨by have := HUZ.out.1; have := HU.out.1; omega, by
              have hjl : j < y.arcs.length := by rw [HEQ.out.1]; exact hlj
              rw [HUZ.out.2, HU.out.2, List.take_succ_eq_append_getElem hjl, List.flatMap_append, arcAt_lt hjl]
              simp⟩, H7⟩, by simp [intOf]; omega⟩
          · have hjn : j = na := by omega
            subst hjn
            have dj : decide ((j : Int) < (j : Int)) = false := by simp
            clear hlj
            go_wp2
            exact ⟨⟨k + 1, U, by omega, rfl, by go_num, Lib.hid ⟨by have := HU.out.1; have := HT.out.1; omega, by
              have hlk : k < l.length := by rw [H1.out.2.2.2.2]; exact hlt
              rw [HU.out.2, laySs_take hlk, Nat.zero_add, HEQ.out.2.2.2, HT.out.2, ← HEQ.out.1, List.take_length]
              unfold layS
              simp⟩, Lib.hid (HR.out.trans ((HB.out.trans (HJ.out.mono HB.out.size)).mono HR.out.size))⟩, by simp [intOf]; omega⟩
    · have hkm : k = m := by omega
      subst hkm
      have d1 : decide ((k : Int) < (k : Int)) = false := by simp
      obtain ⟨E9, hE9, lhE9, q9⟩ := one_is (w := wr) (n := init) (x := (init : Int)) rfl hi
      have Q9 := Lib.hid q9
      have hts : (T ++ E9).size ≤ 700000000 := by rw [ba_size_append]; have := HT.out.1; omega
      have hcat : T.size + E9.size ≤ 9223372036854775807 := by rw [ba_size_append] at hts; omega
      have hfin : (T ++ E9) = ⟨(layT n l init).toArray⟩ := ba_of (by
        rw [ba_append, HT.out.2, lhE9, ← H1.out.2.2.2.2, List.take_length]
        rfl)
      have hqs := fun W => refSeal_any (T ++ E9) W (by omega)
      rw [hfin, HZZ.out] at hqs
      have HQS : Hid (∀ (W : World) (x : ByteArray), x = ⟨(layT n l init).toArray⟩ → Calls Tryd.prog 17 #[.string x] W fun e w' => e = .returned (.string Z) ∧ Below W.heap.size W w') := Lib.hid fun W x hx => by rw [hx]; exact hqs W
      have HFIN := Lib.hid hfin
      clear hlt q9 hts hfin hqs lhE9
      go_wp2_with (first
        | (go_at_call 31
           (with_reducible refine (Q9.out _ (Below.refl _ _)).mono ?_)
           go_loud (
           rintro e' w8 ⟨rfl, hb8⟩
           have H8 := Lib.hid hb8
           clear hb8))
        | (go_at_call 17
           (with_reducible refine (HQS.out _ _ HFIN.out).mono ?_)
           go_loud (
           rintro e' w9 ⟨rfl, hb9⟩
           have H9 := Lib.hid hb9
           clear hb9)))
      go_ret2
      exact ⟨rfl, H1.out.1.trans ((H2.out.trans ((HR.out.trans ((H8.out.trans (H9.out.mono H8.out.size)).mono HR.out.size)).mono H2.out.size)).mono H1.out.1.size)⟩
end Go.Proofs.YtjiilmiikejnhaaDoor

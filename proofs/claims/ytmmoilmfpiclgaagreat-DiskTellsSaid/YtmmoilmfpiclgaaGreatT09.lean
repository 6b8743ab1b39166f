/-
  What stays of a file: the call. A file of its own, alike: the acts cloned, then the call.
-/
import Derived.Test.YtmmoilmfpiclgaaGreatT08
import Derived.Deep.RegionLaw
set_option linter.unusedVariables false
set_option linter.unusedSimpArgs false
namespace Go.Proofs.YtmmoilmfpiclgaaGreat
open Go.RowKit Go.Shelf

theorem first_same {ad : Option Addr} {n c : Nat} {m : Int} (hnc : n ≤ c) (hc : c ≤ 9223372036854775807) (h1 : -9223372036854775808 ≤ m) (h2 : m ≤ 9223372036854775807) (W : World) :
    Calls Tryz.prog 117 #[.slice ad n c, .int .i64 m] W fun e w' => e = .returned (.slice ad (upTo m n) c) ∧ w' = W := by
  refine (first_acts (w := W) hnc hc h1 h2).mono ?_
  rintro e w' ⟨rfl, rfl⟩
  exact ⟨rfl, rfl⟩

theorem firstb_same {ad : Option Addr} {n c : Nat} {m : Int} (hnc : n ≤ c) (hc : c ≤ 9223372036854775807) (h1 : -9223372036854775808 ≤ m) (h2 : m ≤ 9223372036854775807) (W : World) :
    Calls Tryz.prog 119 #[.slice ad n c, .int .i64 m] W fun e w' => e = .returned (.slice ad (upTo m n) c) ∧ w' = W := by
  refine (first_bytes (w := W) hnc hc h1 h2).mono ?_
  rintro e w' ⟨rfl, rfl⟩
  exact ⟨rfl, rfl⟩

theorem Trail.side {w w1 w2 : World} {v v1 : Value} (h : Trail w w1 v v1) (hg : w1.grownBy w2 v1.ownBlock) : Trail w w2 v v1 := by
  obtain ⟨h1, h2⟩ := h
  refine ⟨h1, hg.os.trans h2.os, hg.tape.trans h2.tape, hg.output.trans h2.output, Nat.le_trans h2.size hg.size, fun k hk hn => ?_⟩
  refine (hg.block k (Nat.lt_of_lt_of_le hk h2.size) (fun e => ?_)).trans (h2.block k hk hn)
  rcases h1 with h1 | ⟨g, h1, h3⟩
  · exact hn (e.trans h1)
  · rw [h1] at e; cases e; omega

/-- An append as a step of a region that draws its order. -/
theorem step_append_brow {ops : Array Oper} {o : Oper} {a : Act} {w : World} {K : Act → World → Prop} {Q : Exit → Act → World → Prop} {E : Prop}
    (hg : o.guard = none) (s x : Operand) (hop : o.op = Op.call { callee := Callee.builtin Builtin.append, args := #[s, x], argTypes := #[121, 121] }) (ht : o.type = 121) (v : Value) (l : List UInt8) (ad : Addr) (m c : Nat) (news : List UInt8)
    (hs : a.eval s = v) (hx : a.eval x = .slice (some ad) m c) (hl : news.length = m) (hnews : ∀ j u, (bys news)[j]? = some u → w.cell? (ad.add j) = some u) (hv : BRow w v l) (hlen : l.length + m ≤ 1000000)
    (hK : ∀ v' w', BRow w' v' (l ++ news) → Onto w w' v v' → K (a.put o.dst v') w') : if Region.wanted o (yielded ops a.tmps) = true then Oper.wp Tryz.prog o a w K Q else E := by
  obtain ⟨v', w1, h1, h2, h3⟩ := run_append_brow w v l ad m c news hl hnews hv hlen
  have hw : Region.wanted o (yielded ops a.tmps) = true := by simp [Region.wanted, hg]
  rw [if_pos hw]
  unfold Oper.wp execOp
  simp only [hop, ht, resolve, invoke, builtin, Sem.run_bind, Sem.run_pure, Result.andThen_ok, List.map_toArray, List.map_cons, List.map_nil, hs, hx, h1]
  exact hK v' w1 h2 h3

theorem upTo_le (m : Int) (n : Nat) : upTo m n ≤ n := by unfold upTo; omega

theorem stay_brow {w w' : World} {v v' : Value} {l : List UInt8} (ho : Onto w w' v v') (hn : v'.ownBlock ≠ v.ownBlock) (h : BRow w v l) : BRow w' v l := by
  rcases ho with ⟨q1, _, _⟩ | ⟨_, q⟩
  · exact absurd q1 hn
  · exact h.same fun g hg => q.block g (h.own_lt g hg) (by simp)

theorem stay_pre {w w' : World} {v v' : Value} {l b : List UInt8} (ho : Onto w w' v v') (h : BRow w v l) (h' : BRow w' v' (l ++ b)) : BRow w' v l := by
  rcases ho with ⟨q1, q2, _⟩ | ⟨_, q⟩
  · cases hb : v.ownBlock with
    | none => exact h.same fun g hg => by rw [hb] at hg; cases hg
    | some g =>
      rw [h.form hb]
      exact h'.pre (by rw [q1]; exact hb) q2 (List.prefix_append _ _)
  · exact h.same fun g hg => q.block g (h.own_lt g hg) (by simp)

theorem brow_some {w : World} {ad : Option Addr} {n c : Nat} {l : List UInt8} (h : BRow w (.slice ad n c) l) (hl : l ≠ []) : ∃ g, ad = some ⟨g, 0, none⟩ := by
  rcases h with ⟨_, h⟩ | ⟨g, cap, cs, hv, _⟩
  · exact absurd h hl
  · cases hv; exact ⟨g, rfl⟩

theorem stay_box {w0 w1 w2 : World} {dv v v' : Value} {g : Nat} {cs : Array Value} {q : Int} (ho : Onto w1 w2 v v') (hb : w0.heap[g]? = some (.cells cs 107 (0, 0))) (hq : w1.cell? ⟨g, 1, none⟩ = some (.int .i64 q)) (ht : Trail w0 w1 dv v) (hdv : dv.ownBlock ≠ some g) : w2.cell? ⟨g, 1, none⟩ = some (.int .i64 q) := by
  have hgl : g < w1.heap.size := block_lt_of_cell hq
  rw [World.cell?_of_block (a := ⟨g, 1, none⟩) (ho.grown.block g hgl (fun e => ?_))]
  · exact hq
  · rcases ht.1 with h | ⟨g', h, h2⟩
    · exact hdv (by rw [← h]; exact e.symm)
    · rw [h] at e; cases e
      have := (Array.getElem?_eq_some_iff.1 hb).1
      omega

/-- A row's acts, in memory. -/
theorem owns_row {w : World} {n : Nat} {ad : Option Addr} {c : Nat} {fs : List Value} (h : w.ownsRow 0 140 1 (.slice ad n c) n fs) : (n ≤ c ∧ c ≤ 9223372036854775807) ∧ ∀ k, k < n → ∃ b, ad = some ⟨b, 0, none⟩ ∧ w.cell? ⟨b, 0 + k, none⟩ = fs[k]? ∧ b < w.heap.size := by
  rcases h.2 with ⟨hv, h0⟩ | ⟨g, cap, cur, hv, _, hg, h1, h2, h3, ht⟩
  · cases hv
    exact ⟨⟨by omega, by omega⟩, fun k hk => by omega⟩
  · cases hv
    unfold maxLen at h2
    refine ⟨⟨h1, h2⟩, fun k hk => ⟨g, rfl, ?_, (Array.getElem?_eq_some_iff.1 hg).1⟩⟩
    rw [Nat.zero_add, cell_of_row w g k _ _ _ hg, ← ht, List.getElem?_take, if_pos (by omega), Array.getElem?_toList]

/-- What a stay makes of a file: the world w1 behind what was done again. -/
theorem stay_end {w w1 : World} {p : Nat} {D S : List UInt8} {A : List Do} {M I : Nat → Prop} {dv av rv v : Value} (h : FileAt w p D A M I) (ht : Trio w p dv av rv) (hd : BRow w dv D) (m0 : M p) (m1 : ∀ g, dv.ownBlock = some g → M g)
    {w0 : World} (hb0 : Below w.heap.size w w0) (htr : Trail w0 w1 dv v) (hr : BRow w1 v S) (hS : S.length ≤ 100000) :
    Trio w1 p dv av rv ∧ ∀ w2, Trio w2 p v (.slice none 0 0) v → w1.grownBy w2 (some p) → Went w p S [] M I (.int .i64 0) (.returned (.int .i64 0)) w2 := by
  have pd : ∀ g, dv.ownBlock = some g → g ≠ p := fun g hg => by
    obtain ⟨cs, fz, hc⟩ := hd.mem hg
    exact two_types hc ht (by decide)
  obtain ⟨l1, g1⟩ := htr
  have hz0 := hb0.size
  have hz1 := g1.size
  have hpl := ht.lt
  have e1 : ∀ g, g < w.heap.size → dv.ownBlock ≠ some g → w1.heap[g]? = w.heap[g]? := fun g hg hn => (g1.block g (by omega) (fun e => hn e.symm)).trans (hb0.block g hg)
  have t1 : Trio w1 p dv av rv := (e1 p hpl (fun e => pd p e rfl)).trans ht
  refine ⟨t1, fun w2 t2 g2 => ?_⟩
  have hz2 := g2.size
  have pv : ∀ g, v.ownBlock = some g → g ≠ p := fun g hg => by
    obtain ⟨cs, fz, hc⟩ := hr.mem hg
    exact two_types hc t1 (by decide)
  have hr2 : BRow w2 v S := hr.same fun g hg => g2.block g (hr.own_lt g hg) (fun e => pv g hg (by cases e; rfl))
  have hv : ∀ g, v.ownBlock = some g → M g ∨ w.heap.size ≤ g := fun g hg => by
    rcases l1 with l1 | ⟨g', l1, l2⟩
    · exact .inl (m1 g (by rw [← l1]; exact hg))
    · rw [l1] at hg; cases hg; exact .inr (by omega)
  refine ⟨rfl, _, I, settled t2 hr2 hS (fun g hg => ⟨by have := h.mem g (.inr hg); omega, fun e => h.apart g hg (by rw [e]; exact m0), fun e => ?_⟩), fun g hg => ?_, fun g hg => .inl hg, ⟨?_, ?_, ?_, by omega, fun g hg hm => ?_⟩⟩
  · rcases hv g e with h' | h'
    · exact h.apart g hg h'
    · have := h.mem g (.inr hg); omega
  · rcases hg with rfl | hg
    · exact .inl m0
    · exact hv g hg
  · exact g2.os.trans (g1.os.trans hb0.os)
  · exact g2.tape.trans (g1.tape.trans hb0.tape)
  · exact g2.output.trans (g1.output.trans hb0.output)
  · rw [g2.block g (by omega) (fun e => hm (by cases e; exact m0)), e1 g hg (fun e => hm (m1 g e))]

/-- The acts that are done. -/
def doneT (A : List Do) (d : Int) : List Do := A.take (upTo d A.length)
/-- What there is of the next one. -/
def nextT (A : List Do) (d q : Int) : List UInt8 := match (A.drop (upTo d A.length)).head? with
  | some (.app b) => b.take (upTo q b.length)
  | _ => []
theorem stays_eq (D : List UInt8) (A : List Do) (d q : Int) : stays D A d q = reads D (doneT A d) ++ nextT A d q := rfl

theorem stays_small {D : List UInt8} {A : List Do} (h : bulk D A ≤ 100000) (d q : Int) : (stays D A d q).length ≤ 100000 := by
  rw [stays_eq, List.length_append]
  have h1 := reads_length D (doneT A d)
  have h2 := bulk_take D A (upTo d A.length)
  unfold doneT at h1 ⊢
  unfold nextT
  cases hd : A.drop (upTo d A.length) with
  | nil => simp; omega
  | cons x r =>
    cases x with
    | cut n => simp; omega
    | app b =>
      simp only [List.head?_cons, List.length_take]
      have h3 : bulk D (A.take (upTo d A.length) ++ [.app b]) ≤ bulk D A := by
        conv => rhs; rw [← List.take_append_drop (upTo d A.length) A, hd]
        unfold bulk
        simp
      rw [bulk_app] at h3
      omega

set_option maxHeartbeats 1000000 in
set_option maxRecDepth 100000 in
theorem stay_any {w : World} {p : Nat} {D : List UInt8} {A : List Do} {M I : Nat → Prop} {d q : Int} (h : FileAt w p D A M I) (hlen : A.length ≤ 1000) (h1 : -9223372036854775808 ≤ d) (h2 : d ≤ 9223372036854775807) (h3 : -9223372036854775808 ≤ q) (h4 : q ≤ 9223372036854775807) :
    Calls Tryz.prog 58 #[.pointer (some ⟨p, 0, none⟩), .agg #[.int .i64 d, .int .i64 q]] w (Went w p (stays D A d q) [] M I (.int .i64 0)) := by
  obtain ⟨dv, av, rv, fs, ht, hd, hr, ha, hA, hs, m0, m1, m2, m3⟩ := id h.it
  have ht : Trio w p dv av rv := ht
  have hpl := ht.lt
  obtain ⟨ada, ca, rfl⟩ := owns_slice ha
  obtain ⟨⟨hca1, hca2⟩, hrow⟩ := owns_row ha
  obtain ⟨k, hk⟩ : ∃ k, upTo d A.length = k := ⟨_, rfl⟩
  have hkl : k ≤ A.length := by rw [← hk]; exact upTo_le d A.length
  have q37 := first_same (ad := ada) hca1 hca2 h1 h2
  rw [hk] at q37
  have Q37 := Lib.hid q37
  have hlk : (A.take k).length = k := by rw [List.length_take]; omega
  -- the acts that are done, done again
  have Q38 : Hid (∀ W, Below w.heap.size w W → Calls Tryz.prog 118 #[dv, .slice ada k ca] W fun e w' => ∃ v', e = .returned v' ∧ BRow w' v' (reads D (A.take k)) ∧ Trail W w' dv v') := Lib.hid fun W hW => by
    have hAk : ActsAt W fs A I := hA.same (fun g hg => hW.block g (h.mem g (.inr hg))) (fun _ h => h)
    have hAk' : ActsAt W (fs.take k) (A.take k) I := ⟨by rw [List.length_take, List.length_take, hA.1], fun i hi => by
      rw [hlk] at hi
      obtain ⟨f, k1, k2⟩ := hAk.2 i (by omega)
      exact ⟨f, by rw [List.getElem?_take, if_pos hi]; exact k1, by rw [List.getElem_take]; exact k2⟩⟩
    have := behind_any (ad := ada) (c := ca) (hd.below hW) hAk' (fits_take h.fits k) (Nat.le_trans (bulk_take D A k) (by have := h.small; omega)) (by omega)
      (fun i hi => by
        rw [hlk] at hi
        obtain ⟨b, hb, hc, hlt⟩ := hrow i (by omega)
        refine ⟨b, 0, hb, ?_, fun e => ?_⟩
        · rw [hW.cell (p := ⟨b, 0 + i, none⟩) hlt, hc, List.getElem?_take, if_pos hi]
        · obtain ⟨cs, fz, hx⟩ := hd.mem e
          obtain ⟨ds, hy⟩ := owns_mem ha (g := b) (by rw [hb]; rfl)
          exact two_types hx hy (by decide) rfl)
      (fun g hg => ⟨Nat.lt_of_lt_of_le (h.mem g (.inr hg)) hW.size, fun e => h.apart g hg (m1 g e)⟩)
    rw [hlk] at this
    exact this
  have HA := Lib.hid hA
  have HM := Lib.hid (And.intro h (And.intro ht (And.intro hd (And.intro m0 m1))))
  have HROW := Lib.hid hrow
  have HDK := Lib.hid hk
  obtain ⟨add, cd, rfl, _, _⟩ := hd.shape
  have HP : Hid (∀ W, Below w.heap.size w W → W.cell? ⟨p, 0, none⟩ = some (.slice add D.length cd) ∧ W.cell? ⟨p, 1, none⟩ = some (.slice ada A.length ca)) := Lib.hid fun W hW => by
    have t : Trio W p _ _ _ := (hW.block p hpl).trans ht
    exact ⟨t.at0, t.at1⟩
  have HNB : Hid (∀ b, ada = some ⟨b, 0, none⟩ → (Value.slice add D.length cd).ownBlock ≠ some b) := Lib.hid fun b hb e => by
    obtain ⟨cs, fz, hx⟩ := hd.mem e
    obtain ⟨ds, hy⟩ := owns_mem ha (g := b) (by rw [hb]; rfl)
    exact two_types hx hy (by decide) rfl
  have hb0 : Below w.heap.size w (w.alloc (.cells #[.int .i64 d, .int .i64 q] 107)) := below_alloc' (Below.refl _ w)
  have ne0 : p ≠ w.heap.size := Nat.ne_of_lt hpl
  obtain ⟨k0, k1⟩ := HP.out w (Below.refl _ w)
  clear h ht hd hr ha hA hs m0 m1 m2 m3 hrow hk q37
  go_enter Tryz.func58, Tryz.ntmps58
  go_upto_region 3 with fail
  go_quiet ((go_at_call 117; exact Calls.quiet_of_same (Q37.out _)))
  have hbW : Below w.heap.size w (World.drewN (w.alloc (.cells #[.int .i64 d, .int .i64 q] 107)) nq) := below_drewN' hb0
  have bW : (World.drewN (w.alloc (.cells #[.int .i64 d, .int .i64 q] 107)) nq).heap[w.heap.size]? = some (.cells #[.int .i64 d, .int .i64 q] 107 (0, 0)) := heap_alloc_new w _
  generalize World.drewN (w.alloc (.cells #[.int .i64 d, .int .i64 q] 107)) nq = w0 at hbW bW ⊢
  clear k0 k1 hb0
  obtain ⟨k0, k1⟩ := HP.out w0 hbW
  go_upto_region 5 with (go_at_call 118; (with_reducible refine (Q38.out _ hbW).mono ?_); rintro e w1 ⟨v1, rfl, r1, t1⟩; have HR1 := Lib.hid r1; have HT1 := Lib.hid t1; clear r1 t1)
  obtain ⟨ad1, c1, rfl, hc11, hc12⟩ := HR1.out.shape
  have hLb := Nat.le_trans (reads_length D (A.take k)) (bulk_take D A k)
  have hLs : (reads D (A.take k)).length ≤ 100000 := Nat.le_trans hLb HM.out.1.small
  have hsm := stays_small HM.out.1.small d q
  have HFIN : Hid (∀ wf ad n c S, Trail w0 wf (.slice add D.length cd) (.slice ad n c) → BRow wf (.slice ad n c) S → S.length ≤ 100000 → stays D A d q = S → Calls Tryz.prog 95 #[.pointer (some ⟨p, 0, none⟩), .slice ad n c] wf fun e w' => e = .returned (.tuple #[]) ∧ Went w p (stays D A d q) [] M I (.int .i64 0) (.returned (.int .i64 0)) w') := Lib.hid fun wf ad n c S htr hr hS hst => by
    obtain ⟨hF, ht, hd, m0, m1⟩ := HM.out
    obtain ⟨t, hfin⟩ := stay_end hF ht hd m0 m1 hbW htr hr hS
    refine (settle_any t).mono ?_
    rintro e w' ⟨rfl, t2, g2⟩
    rw [hst]
    exact ⟨rfl, hfin w' t2 g2⟩
  have HT : Hid (∀ wf v S, Trail w0 wf (.slice add D.length cd) v → BRow wf v S → S.length ≤ 100000 → Trio wf p (.slice add D.length cd) (.slice ada A.length ca) rv) := Lib.hid fun wf v S htr hr hS => by
    obtain ⟨hF, ht, hd, m0, m1⟩ := HM.out
    exact (stay_end hF ht hd m0 m1 hbW htr hr hS).1
  have t1 := HT.out _ _ _ HT1.out HR1.out hLs
  have y1 := t1.at1
  have hst := stays_eq D A d q
  unfold doneT nextT at hst
  rw [HDK.out] at hst
  obtain ⟨L, hL⟩ : ∃ L, reads D (A.take k) = L := ⟨_, rfl⟩
  rw [hL] at hst hLs hc11 HR1 HT1 ⊢
  clear k0 k1
  by_cases hkA : k < A.length
  · obtain ⟨b, hab, hc, hlt⟩ := HROW.out k hkA
    subst hab
    obtain ⟨f, hf, hact⟩ := HA.out.2 k hkA
    rw [hf, Nat.zero_add] at hc
    have hnb := HNB.out b rfl
    have hblt0 : b < w0.heap.size := Nat.lt_of_lt_of_le hlt hbW.size
    have hcr : w1.cell? ⟨b, k, none⟩ = some f := by
      rw [World.cell?_of_block (a := ⟨b, k, none⟩) (HT1.out.2.block b hblt0 (fun e => hnb e.symm)), hbW.cell (p := ⟨b, k, none⟩) hlt]
      exact hc
    have hact1 : ActAt w1 f A[k] I := hact.same (fun g hg => by
      have hl := HM.out.1.mem g (.inr hg)
      have hm : (Value.slice add D.length cd).ownBlock ≠ some g := fun e => HM.out.1.apart g hg (HM.out.2.2.2.2 g e)
      rw [HT1.out.2.block g (Nat.lt_of_lt_of_le hl hbW.size) (fun e => hm e.symm), hbW.block g hl]) (fun _ h => h)
    have hft := fits_at HM.out.1.fits k hkA
    rw [hL] at hft
    rw [List.drop_eq_getElem_cons hkA, List.head?_cons] at hst
    have d1 : decide (k < A.length) = true := decide_eq_true hkA
    cases ha : A[k] with
    | cut n =>
      rw [ha] at hact1 hft hst
      simp only [List.append_nil] at hst
      obtain ⟨cc, rfl, q1, _⟩ := hact1
      have Q36 := Lib.hid (cut_act HR1.out q1 hft.1 (by omega))
      have hn := hft.1
      have HST := Lib.hid hst
      have d2 : decide (L.length < (L.take n).length) = false := decide_eq_false (by rw [List.length_take]; omega)
      obtain ⟨L2, hL2⟩ : ∃ L2, L.take n = L2 := ⟨_, rfl⟩
      rw [hL2] at Q36 d2
      clear hc hf hact q1 hft hst ha hL2 hn
      go_wp2_with (first
        | (go_at_call 132; (with_reducible refine Q36.out.mono ?_); rintro e w2 ⟨v2, rfl, r2, o2, n2⟩; obtain ⟨ad2, c2, rfl, hc21, hc22⟩ := r2.shape;
            have HTR := Lib.hid (HT1.out.side o2.grown); have HB2 := Lib.hid (stay_brow o2 n2 HR1.out); have HN := Lib.hid n2; clear r2 o2 n2)
        | (go_at_call 95; (with_reducible refine (HFIN.out _ _ _ _ _ HTR.out HB2.out hLs HST.out).mono ?_); rintro e w3 ⟨rfl, hd⟩; have HD := Lib.hid hd; clear hd))
      go_ret
      exact HD.out
    | app bb =>
      rw [ha] at hact1 hft hst
      simp only at hst
      obtain ⟨cc, va, rfl, q1, q2, _, _⟩ := hact1
      have hbb := hft.1
      have hbl : 0 < bb.length := List.length_pos_iff.2 hbb
      have hbk : L.length + bb.length ≤ 200000 := by
        have h5 := Nat.le_trans (reads_length D (A.take (k + 1))) (bulk_take D A (k + 1))
        rw [List.take_succ_eq_append_getElem hkA, reads_snoc, hL, ha] at h5
        have : ((Do.app bb).on L).length = L.length + bb.length := List.length_append
        have := HM.out.1.small
        omega
      have Q27 := Lib.hid (app_any HR1.out q1 q2 hbb (by omega))
      obtain ⟨m, hm⟩ : ∃ m, upTo q bb.length = m := ⟨_, rfl⟩
      have hmb : m ≤ bb.length := by rw [← hm]; exact upTo_le q bb.length
      rw [hm] at hst
      rw [hst, List.length_append] at hsm
      have HST := Lib.hid hst
      have HMM := Lib.hid hm
      have d2 : decide (L.length < L.length + bb.length) = true := decide_eq_true (by omega)
      have hbox1 : w1.cell? ⟨w.heap.size, 1, none⟩ = some (.int .i64 q) := by
        rw [World.cell?_of_block (a := ⟨w.heap.size, 1, none⟩) (HT1.out.2.block w.heap.size (Array.getElem?_eq_some_iff.1 bW).1 (fun e => by
          have := HM.out.2.2.1.own_lt w.heap.size e.symm
          omega)), cell_of_row _ _ 1 _ _ _ bW]
        rfl
      clear hc hf hact q1 q2 hft hst ha hm hbb
      go_upto_region 8 with (first
        | (go_at_call 114; (with_reducible refine Q27.out.mono ?_); rintro e w2 ⟨v2, rfl, r2, o2⟩; obtain ⟨ad2, c2, hv2, hc21, hc22⟩ := r2.shape; rw [List.length_append] at hv2 hc21; subst hv2;
            have HTR := Lib.hid (HT1.out.side o2.grown); have HB2 := Lib.hid (stay_pre o2 HR1.out r2); have HR2 := Lib.hid r2; have HBX := Lib.hid (stay_box o2 bW hbox1 HT1.out (fun e => by have := HM.out.2.2.1.own_lt w.heap.size e; omega)); clear r2 o2))
      obtain ⟨g2, rfl⟩ := brow_some HR2.out (by intro e; have he := (List.append_eq_nil_iff.1 e).2; rw [he] at hbl; exact absurd hbl (by decide))
      have hnews : ∀ j u, (bys (bb.take m))[j]? = some u → w2.cell? ((⟨g2, L.length, none⟩ : Addr).add j) = some u := fun j u hj => by
        rw [Addr.add_lit]
        refine HR2.out.cells.2 (L.length + j) u ?_
        have hjm : j < m := by have := (List.getElem?_eq_some_iff.1 hj).1; rw [bys_length, List.length_take] at this; omega
        rw [bys_append, List.getElem?_append_right (by rw [bys_length]; omega), bys_length, Nat.add_sub_cancel_left]
        rw [bys_take, List.getElem?_take, if_pos hjm] at hj
        exact hj
      have Q39 : Hid (∀ W, Calls Tryz.prog 119 #[.slice (some ⟨g2, L.length, none⟩) bb.length (c2 - L.length), .int .i64 q] W fun e w' => e = .returned (.slice (some ⟨g2, L.length, none⟩) m (c2 - L.length)) ∧ w' = W) := Lib.hid fun W => by
        have := firstb_same (ad := some ⟨g2, L.length, none⟩) (n := bb.length) (c := c2 - L.length) (m := q) (by omega) (by omega) h3 h4 W
        rw [HMM.out] at this
        exact this
      have HNW := Lib.hid hnews
      have hne : ¬ c2 = L.length := by omega
      have f1 : L.length ≤ L.length + bb.length := by omega
      have f0 : (L.length : Int) ≤ (L.length : Int) + (bb.length : Int) := by omega
      have f2 : L.length ≤ c2 := by omega
      have f3 : L.length + bb.length - L.length = bb.length := by omega
      have f4 : ((L.length + bb.length : Nat) : Int) = (L.length : Int) + (bb.length : Int) := by omega
      have hbx2 := HBX.out
      have hlm : (bb.take m).length = m := by rw [List.length_take]; omega
      clear hnews hbox1
      go_region_law (first
        | (refine step_append_brow rfl (.tmp 46) (.tmp 53) rfl rfl (.slice ad1 L.length c1) L ⟨g2, L.length, none⟩ m (c2 - L.length) (bb.take m) rfl rfl hlm HNW.out (HB2.out.same (fun _ _ => rfl)) (by omega) ?_; intro v3 w3 r3 o3)
        | (go_simp; go_at_call 119; (with_reducible refine (Q39.out _).mono ?_); rintro e w3' ⟨rfl, rfl⟩))
      obtain ⟨ad3, c3, hv3, hc31, hc32⟩ := r3.shape
      rw [List.length_append, hlm] at hv3
      subst hv3
      have HR3 := Lib.hid r3
      have ht2 : Trail w0 w2.drew (.slice add D.length cd) (.slice ad1 L.length c1) := ⟨HTR.out.1, HTR.out.2.os, HTR.out.2.tape, HTR.out.2.output, HTR.out.2.size, HTR.out.2.block⟩
      have ht3 : Trail w0 w3 (.slice add D.length cd) (.slice ad3 (L.length + m) c3) := ht2.next o3
      have HT3 := Lib.hid ht3
      have hl3 : (L ++ bb.take m).length ≤ 100000 := by rw [List.length_append]; exact hsm
      clear r3 o3 ht3
      go_wp2_with (go_at_call 95; (with_reducible refine (HFIN.out _ _ _ _ _ HT3.out HR3.out hl3 HST.out).mono ?_); rintro e w4 ⟨rfl, hd⟩; have HD := Lib.hid hd; clear hd)
      go_ret
      exact HD.out
  · obtain rfl : k = A.length := by omega
    rw [List.drop_length] at hst
    simp only [List.head?_nil, List.append_nil] at hst
    have HST := Lib.hid hst
    clear hst hkA
    go_wp2_with (go_at_call 95; (with_reducible refine (HFIN.out _ _ _ _ _ HT1.out HR1.out hLs HST.out).mono ?_); rintro e w3 ⟨rfl, hd⟩; have HD := Lib.hid hd; clear hd)
    go_ret
    exact HD.out
end Go.Proofs.YtmmoilmfpiclgaaGreat
namespace Go.Proofs.YtmmoilmfpiclgaaGreat
open Go.RowKit Go.Shelf

theorem owns_base {w : World} {base size n : Nat} {e : TypeId} {v : Value} {xs : List Value} (h : w.ownsRow base e size v n xs) : w.ownsRow 0 e size v n xs := by
  refine ⟨h.1, ?_⟩
  rcases h.2 with h' | ⟨g, cap, cur, h1, _, h3⟩
  · exact .inl h'
  · exact .inr ⟨g, cap, cur, h1, Nat.zero_le _, h3⟩
theorem owns_new {w : World} {base size n : Nat} {e : TypeId} {v : Value} {xs : List Value} (h : w.ownsRow base e size v n xs) : ∀ g, v.ownBlock = some g → base ≤ g := by
  intro g hg
  rcases h.2 with ⟨rfl, _⟩ | ⟨g', cap, cur, rfl, hh, _⟩
  · cases hg
  · cases hg; exact hh

/-- An append of a row of acts to one of the call's own: what a walk goes on with. -/
theorem wpList_append_acts {w : World} {ops : Array Oper} {rest : List Oper} {o : Oper} {a : Act} {Q : Exit → Act → World → Prop} (hgd : o.guard = none) (s x : Operand)
    (hop : o.op = Op.call { callee := Callee.builtin Builtin.append, args := #[s, x], argTypes := #[122, 122] }) (ht : o.type = 122) (base : Nat) (v : Value) (n : Nat) (fs : List Value) (ad : Addr) (m c : Nat) (news : List Value)
    (hs : a.eval s = v) (hx : a.eval x = .slice (some ad) m c) (hl : news.length = m) (hc : ∀ j u, news[j]? = some u → w.cell? (ad.add j) = some u) (hf : ∀ u ∈ news, u.oneCell' = true) (hv : w.ownsRow base 140 1 v n fs) (hb : base ≤ w.heap.size) (hlen : n + m ≤ 1000000)
    (h : ∀ v' w', w'.ownsRow base 140 1 v' (n + m) (fs ++ news) → w.grownBy w' v.ownBlock → wpList Tryz.prog ops Q rest (a.put o.dst v') w') : wpList Tryz.prog ops Q (o :: rest) a w := by
  obtain ⟨i0, hi, hz0, hz1, hz2⟩ := info_parts i61
  obtain ⟨v', w1, h1, h2, h3, _, _⟩ := run_append_own_at (P := Tryz.prog) w base 122 122 140 i0 .nilFunc 1 8 Tryz.underlying122 hi hz0 hz1 hz2 rfl (by decide) v n fs hv ad m c news (by omega)
    hc hf (by unfold maxLen; omega) (by omega) hb
  refine wpList_plain hgd fun _ hK => ?_
  unfold Oper.wp execOp
  simp only [hop, ht, resolve, invoke, builtin, Sem.run_bind, Sem.run_pure, Result.andThen_ok, List.map_toArray, List.map_cons, List.map_nil, hs, hx, h1]
  exact hK _ _ (h v' w1 h2 h3)

theorem nil_is55 (w : World) : Sem.run Tryz.prog (binOp .eql 122 (.slice none 0 0) (.slice none 0 0)) w = .ok (.bool true) w := by kernel_rfl
theorem nil_no55 (w : World) (a : Addr) (n c : Nat) : Sem.run Tryz.prog (binOp .eql 122 (.slice (some a) n c) (.slice none 0 0)) w = .ok (.bool false) w := by kernel_rfl

set_option maxHeartbeats 1000000 in
set_option maxRecDepth 100000 in
theorem clone_acts {w : World} {v : Value} {n : Nat} {fs : List Value} (h : w.ownsRow 0 140 1 v n fs) (hn : n ≤ 900000) (h1 : ∀ u ∈ fs, u.oneCell' = true) :
    Calls Tryz.prog 106 #[v] w fun e w' => ∃ v', e = .returned v' ∧ w'.ownsRow w.heap.size 140 1 v' n fs ∧ Below w.heap.size w w' := by
  have hfl := h.1
  rcases id h with ⟨_, ⟨rfl, rfl⟩ | ⟨g, cap, cur, rfl, _, hg, h2, h3, h4, h5⟩⟩
  · go_enter Tryz.func106, Tryz.ntmps106
    have hnil := nil_is55 w
    go_wp2
    go_ret
    exact ⟨_, rfl, ⟨hfl, .inl ⟨rfl, rfl⟩⟩, Below.refl _ _⟩
  · have HC : Hid (∀ j u, fs[j]? = some u → (w.alloc (.cells #[] 140)).cell? ((⟨g, 0, none⟩ : Addr).add j) = some u) := Lib.hid fun j u hj => by
      have hjn : j < n := by have := (List.getElem?_eq_some_iff.1 hj).1; omega
      rw [Addr.add_lit, Nat.zero_add, (below_alloc' (Below.refl _ w)).cell (p := ⟨g, j, none⟩) (Array.getElem?_eq_some_iff.1 hg).1, cell_of_row w g j _ _ _ hg, ← Array.getElem?_toList]
      rw [← h5, List.getElem?_take, if_pos (by omega)] at hj
      exact hj
    have hH := Lib.hid h1
    clear h hg h1
    have hnil := nil_no55 w ⟨g, 0, none⟩ n cap
    go_enter Tryz.func106, Tryz.ntmps106
    go_wp2_with (at_builtin; refine wpList_append_acts rfl _ _ rfl rfl w.heap.size (.slice (some ⟨w.heap.size, 0, none⟩) 0 0) 0 [] ⟨g, 0, none⟩ n cap fs rfl rfl (by omega) HC.out hH.out (World.ownsRow_made w #[] 0 (Nat.le_refl _) (Nat.zero_le _) (by simp)) (by simp) (by omega) ?_; intro v' w1 hr ho; have HR := Lib.hid hr; have HO := Lib.hid ho; clear hr ho)
    go_ret
    have hr := HR.out
    have ho := HO.out
    rw [List.nil_append, Nat.zero_add] at hr
    exact ⟨v', rfl, hr, (below_alloc' (Below.refl _ w)).grown ho (by simp) (fun k hk => by cases hk; exact Nat.le_refl _)⟩

/-- The acts' values lie in one cell each. -/
theorem acts_one {w : World} {fs : List Value} {A : List Do} {I : Nat → Prop} (h : ActsAt w fs A I) : ∀ u ∈ fs, u.oneCell' = true := by
  intro u hu
  obtain ⟨i, hi, rfl⟩ := List.mem_iff_getElem.1 hu
  obtain ⟨f, h1, h2⟩ := h.2 i (by rw [← h.1]; exact hi)
  rw [List.getElem?_eq_getElem hi] at h1
  cases h1
  revert h2
  cases A[i]'(by rw [← h.1]; exact hi) with
  | app b => rintro ⟨c, v, h3, _⟩; rw [h3]; rfl
  | cut k => rintro ⟨c, h3, _⟩; rw [h3]; rfl
end Go.Proofs.YtmmoilmfpiclgaaGreat

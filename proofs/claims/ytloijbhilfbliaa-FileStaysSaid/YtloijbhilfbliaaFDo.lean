/-
  An act, done: it stands in the row of acts, and what is read is what it makes of that.
-/
import Derived.Test.YtloijbhilfbliaaFActs
namespace Go.Proofs.Ytloijbhilfbliaa
open Go.RowKit Go.Shelf

theorem heap_setCell_ne {w : World} {p o g : Nat} {v : Value} (h : g ≠ p) : (w.setCell ⟨p, o, none⟩ v).heap[g]? = w.heap[g]? := Below.heap_setCell w ⟨p, o, none⟩ v g h

theorem BRow.form {w : World} {v : Value} {l : List UInt8} (h : BRow w v l) {g : Nat} (hg : v.ownBlock = some g) : v = .slice (some ⟨g, 0, none⟩) l.length (capOf v) := by
  rcases h with ⟨rfl, _⟩ | ⟨g', cap, cs, rfl, _⟩
  · cases hg
  · cases hg; rfl

/-- The blocks that a file writes, told by its three values. -/
def Of3 (p : Nat) (dv av rv : Value) (g : Nat) : Prop := g = p ∨ dv.ownBlock = some g ∨ av.ownBlock = some g ∨ rv.ownBlock = some g

/-- Behind an act, on the way of the call: w the file's world, wa the closure's row made, w1 it appended, w3 the act done. -/
theorem done_file {w wa w1 w3 : World} {p : Nat} {D : List UInt8} {A : List Do} {M I J : Nat → Prop} {dv av av' rv rv' f : Value} {fs : List Value} {a : Do} (h : FileAt w p D A M I)
    (ht : Trio w p dv av rv) (hd : BRow w dv D) (hr : BRow w rv (reads D A)) (ha : w.ownsRow 0 61 1 av A.length fs) (hA : ActsAt w fs A I) (hs : dv.ownBlock = rv.ownBlock → capOf dv = capOf rv ∧ D <+: reads D A)
    (m0 : M p) (m1 : ∀ g, dv.ownBlock = some g → M g) (m2 : ∀ g, rv.ownBlock = some g → M g) (m3 : ∀ g, av.ownBlock = some g → M g)
    (hf : ActAt w f a J) (hJ : ∀ g, J g → g < w.heap.size ∧ ¬ M g) (hfit : Fits (reads D A) [a]) (hbulk : bulk D (A ++ [a]) ≤ 100000)
    (g0 : Below w.heap.size w wa) (g1 : wa.grownBy w1 av.ownBlock) (o1 : w1.ownsRow 0 61 1 av' (A.length + 1) (fs ++ [f])) (l1 : av'.ownBlock = av.ownBlock ∨ av'.ownBlock = some wa.heap.size)
    (hr' : BRow w3 rv' (a.on (reads D A))) (ho : Onto (w1.setCell ⟨p, 1, none⟩ av') w3 rv rv') (hpre : rv'.ownBlock = rv.ownBlock → reads D A <+: a.on (reads D A)) :
    FileAt (w3.setCell ⟨p, 2, none⟩ rv') p D (A ++ [a]) (Of3 p dv av' rv') (fun g => I g ∨ J g) ∧ (∀ g, Of3 p dv av' rv' g → M g ∨ w.heap.size ≤ g) ∧ Kept M w (w3.setCell ⟨p, 2, none⟩ rv') := by
  -- types part blocks
  have pa : ∀ g, av.ownBlock = some g → g ≠ p := fun g hg => by
    obtain ⟨cs, hc⟩ := owns_mem ha hg
    exact two_types hc ht (by decide)
  have pr : ∀ g, rv.ownBlock = some g → g ≠ p := fun g hg => by
    obtain ⟨cs, fz, hc⟩ := hr.mem hg
    exact two_types hc ht (by decide)
  have pd : ∀ g, dv.ownBlock = some g → g ≠ p := fun g hg => by
    obtain ⟨cs, fz, hc⟩ := hd.mem hg
    exact two_types hc ht (by decide)
  have ra : ∀ g, rv.ownBlock = some g → av.ownBlock ≠ some g := fun g hg e => by
    obtain ⟨cs, fz, hc⟩ := hr.mem hg
    obtain ⟨ds, hd'⟩ := owns_mem ha e
    exact two_types hc hd' (by decide) rfl
  have da : ∀ g, dv.ownBlock = some g → av.ownBlock ≠ some g := fun g hg e => by
    obtain ⟨cs, fz, hc⟩ := hd.mem hg
    obtain ⟨ds, hd'⟩ := owns_mem ha e
    exact two_types hc hd' (by decide) rfl
  have hz0 := g0.size
  have hz1 := g1.size
  have hpl := ht.lt
  -- up to the row of acts
  have e1 : ∀ g, g < w.heap.size → av.ownBlock ≠ some g → w1.heap[g]? = w.heap[g]? := fun g hg hn => (g1.block g (by omega) (fun e => hn e.symm)).trans (g0.block g hg)
  have t1 : Trio w1 p dv av rv := (e1 p hpl (fun e => pa p e rfl)).trans ht
  have hav : ∀ g, av'.ownBlock = some g → g ≠ p := fun g hg => by
    obtain ⟨cs, hc⟩ := owns_mem o1 hg
    exact two_types hc t1 (by decide)
  have t2 := t1.set1 av'
  have e2 : ∀ g, g < w.heap.size → av.ownBlock ≠ some g → g ≠ p → (w1.setCell ⟨p, 1, none⟩ av').heap[g]? = w.heap[g]? := fun g hg hn hp => (heap_setCell_ne hp).trans (e1 g hg hn)
  have o2 : (w1.setCell ⟨p, 1, none⟩ av').ownsRow 0 61 1 av' (A.length + 1) (fs ++ [f]) := owns_same o1 fun g hg => heap_setCell_ne (hav g hg)
  have hz2 : (w1.setCell ⟨p, 1, none⟩ av').heap.size = w1.heap.size := by simp
  have gk := grown_setCell w1 p 1 av'
  generalize w1.setCell ⟨p, 1, none⟩ av' = w2 at t2 e2 o2 hz2 ho gk
  have hr2 : BRow w2 rv (reads D A) := hr.same fun g hg => e2 g (hr.own_lt g hg) (ra g hg) (pr g hg)
  have hd2 : BRow w2 dv D := hd.same fun g hg => e2 g (hd.own_lt g hg) (da g hg) (pd g hg)
  -- the act
  have g3 := ho.grown
  have hz3 := g3.size
  have e3 : ∀ g, g < w2.heap.size → rv.ownBlock ≠ some g → w3.heap[g]? = w2.heap[g]? := fun g hg hn => g3.block g hg (fun e => hn e.symm)
  have t3 : Trio w3 p dv av' rv := (e3 p (by omega) (fun e => pr p e rfl)).trans t2
  have hra' : ∀ g, av'.ownBlock = some g → rv.ownBlock ≠ some g := fun g hg e => by
    obtain ⟨cs, fz, hc⟩ := hr2.mem e
    obtain ⟨ds, hd'⟩ := owns_mem o2 hg
    exact two_types hc hd' (by decide) rfl
  have o3 : w3.ownsRow 0 61 1 av' (A.length + 1) (fs ++ [f]) := owns_same o2 fun g hg => e3 g (o2.lt g hg).2 (hra' g hg)
  have hd3 : BRow w3 dv D := by
    rcases ho with ⟨q1, q2, q3⟩ | ⟨_, q3⟩
    · by_cases hdr : dv.ownBlock = rv.ownBlock
      · obtain ⟨k1, k2⟩ := hs hdr
        cases hb : dv.ownBlock with
        | none =>
          exact hd2.same fun g hg => by rw [hb] at hg; cases hg
        | some g =>
          rw [hd2.form hb]
          exact hr'.pre (by rw [q1, ← hdr]; exact hb) (by rw [q2, ← k1]) (k2.trans (hpre q1))
      · exact hd2.same fun g hg => q3.block g (hd2.own_lt g hg) (fun e => hdr (by rw [hg, e]))
    · exact hd2.same fun g hg => q3.block g (hd2.own_lt g hg) (by simp)
  -- what is caught
  have hI : ∀ g, I g ∨ J g → g < w.heap.size ∧ ¬ M g := fun g hg => by
    rcases hg with hg | hg
    · exact ⟨h.mem g (.inr hg), h.apart g hg⟩
    · exact hJ g hg
  have eI : ∀ g, I g ∨ J g → w3.heap[g]? = w.heap[g]? := fun g hg => by
    obtain ⟨k1, k2⟩ := hI g hg
    rw [e3 g (by omega) (fun e => k2 (m2 g e)), e2 g k1 (fun e => k2 (m3 g e)) (fun e => k2 (by rw [e]; exact m0))]
  have pr' : ∀ g, rv'.ownBlock = some g → g ≠ p := fun g hg => by
    obtain ⟨cs, fz, hc⟩ := hr'.mem hg
    exact two_types hc t3 (by decide)
  have pd' : ∀ g, dv.ownBlock = some g → g ≠ p := pd
  have eI4 : ∀ g, I g ∨ J g → (w3.setCell ⟨p, 2, none⟩ rv').heap[g]? = w.heap[g]? := fun g hg => by
    rw [heap_setCell_ne (fun e => (hI g hg).2 (by rw [e]; exact m0)), eI g hg]
  have hw4 : (w3.setCell ⟨p, 2, none⟩ rv').heap.size = w3.heap.size := by simp
  have hM' : ∀ g, Of3 p dv av' rv' g → M g ∨ w.heap.size ≤ g := fun g hg => by
    rcases hg with rfl | hg | hg | hg
    · exact .inl m0
    · exact .inl (m1 g hg)
    · rcases l1 with e | e
      · exact .inl (m3 g (by rw [← e]; exact hg))
      · rw [e] at hg; cases hg; exact .inr hz0
    · rcases ho with ⟨q1, _, _⟩ | ⟨⟨g', q1, q2⟩, _⟩
      · exact .inl (m2 g (by rw [← q1]; exact hg))
      · rw [q1] at hg; cases hg; exact .inr (by omega)
  refine ⟨⟨⟨dv, av', rv', fs ++ [f], t3.set2 rv', hd3.same fun g hg => heap_setCell_ne (pd' g hg), ?_, ?_, ?_, ?_, .inl rfl, fun g hg => .inr (.inl hg), fun g hg => .inr (.inr (.inr hg)), fun g hg => .inr (.inr (.inl hg))⟩, ?_, hbulk, ?_, ?_⟩, hM', ?_⟩
  · rw [reads_snoc]
    exact hr'.same fun g hg => heap_setCell_ne (pr' g hg)
  · rw [List.length_append]
    exact owns_same o3 fun g hg => heap_setCell_ne (hav g hg)
  · refine ⟨by rw [List.length_append, List.length_append, hA.1]; rfl, fun k hk => ?_⟩
    by_cases hlt : k < A.length
    · obtain ⟨f', k1, k2⟩ := hA.2 k hlt
      refine ⟨f', by rw [List.getElem?_append_left (by rw [hA.1]; exact hlt)]; exact k1, ?_⟩
      rw [List.getElem_append_left hlt]
      exact k2.same (fun g hg => eI4 g (.inl hg)) (fun g hg => .inl hg)
    · have hk' : k = A.length := by rw [List.length_append] at hk; simp at hk; omega
      subst hk'
      refine ⟨f, by rw [← hA.1]; simp, ?_⟩
      rw [List.getElem_concat_length rfl]
      exact hf.same (fun g hg => eI4 g (.inr hg)) (fun g hg => .inr hg)
  · intro e
    rcases ho with ⟨q1, q2, _⟩ | ⟨⟨g', q1, q2⟩, _⟩
    · obtain ⟨k1, k2⟩ := hs (by rw [e, q1])
      exact ⟨k1.trans q2.symm, by rw [reads_snoc]; exact k2.trans (hpre q1)⟩
    · rw [q1] at e
      have := hd2.own_lt g' e
      omega
  · rw [fits_append]
    exact ⟨h.fits, hfit⟩
  · intro g hg
    rw [hw4]
    rcases hg with hg | hg
    · rcases hg with rfl | hg | hg | hg
      · omega
      · have := hd.own_lt g hg; omega
      · have := (o3.lt g hg).2; omega
      · exact hr'.own_lt g hg
    · have := (hI g hg).1; omega
  · intro g hg hm
    obtain ⟨k1, k2⟩ := hI g hg
    rcases hM' g hm with h' | h'
    · exact k2 h'
    · omega
  · refine ⟨?_, ?_, ?_, ?_, fun g hg hm => ?_⟩
    · exact (grown_setCell w3 p 2 rv').os.trans (g3.os.trans (gk.os.trans (g1.os.trans g0.os)))
    · exact (grown_setCell w3 p 2 rv').tape.trans (g3.tape.trans (gk.tape.trans (g1.tape.trans g0.tape)))
    · exact (grown_setCell w3 p 2 rv').output.trans (g3.output.trans (gk.output.trans (g1.output.trans g0.output)))
    · omega
    · rw [heap_setCell_ne (fun e => hm (by rw [e]; exact m0)), e3 g (by omega) (fun e => hm (m2 g e)), e2 g hg (fun e => hm (m3 g e)) (fun e => hm (by rw [e]; exact m0))]

theorem pre_act {w wa w1 : World} {p : Nat} {R : List UInt8} {n : Nat} {M J : Nat → Prop} {dv av av' rv f : Value} {fs : List Value} {a : Do}
    (ht : Trio w p dv av rv) (hr : BRow w rv R) (ha : w.ownsRow 0 61 1 av n fs) (m0 : M p) (m3 : ∀ g, av.ownBlock = some g → M g)
    (hf : ActAt w f a J) (hJ : ∀ g, J g → g < w.heap.size ∧ ¬ M g) (g0 : Below w.heap.size w wa) (g1 : wa.grownBy w1 av.ownBlock) :
    Trio w1 p dv av rv ∧ Trio (w1.setCell ⟨p, 1, none⟩ av') p dv av' rv ∧ BRow (w1.setCell ⟨p, 1, none⟩ av') rv R ∧ ActAt (w1.setCell ⟨p, 1, none⟩ av') f a J := by
  have pa : ∀ g, av.ownBlock = some g → g ≠ p := fun g hg => by
    obtain ⟨cs, hc⟩ := owns_mem ha hg
    exact two_types hc ht (by decide)
  have pr : ∀ g, rv.ownBlock = some g → g ≠ p := fun g hg => by
    obtain ⟨cs, fz, hc⟩ := hr.mem hg
    exact two_types hc ht (by decide)
  have ra : ∀ g, rv.ownBlock = some g → av.ownBlock ≠ some g := fun g hg e => by
    obtain ⟨cs, fz, hc⟩ := hr.mem hg
    obtain ⟨ds, hd'⟩ := owns_mem ha e
    exact two_types hc hd' (by decide) rfl
  have hz0 := g0.size
  have hpl := ht.lt
  have e1 : ∀ g, g < w.heap.size → av.ownBlock ≠ some g → w1.heap[g]? = w.heap[g]? := fun g hg hn => (g1.block g (by omega) (fun e => hn e.symm)).trans (g0.block g hg)
  have t1 : Trio w1 p dv av rv := (e1 p hpl (fun e => pa p e rfl)).trans ht
  refine ⟨t1, t1.set1 av', hr.same fun g hg => (heap_setCell_ne (pr g hg)).trans (e1 g (hr.own_lt g hg) (ra g hg)), hf.same (fun g hg => ?_) (fun _ h => h)⟩
  obtain ⟨k1, k2⟩ := hJ g hg
  exact (heap_setCell_ne (fun e => k2 (by rw [e]; exact m0))).trans (e1 g k1 (fun e => k2 (m3 g e)))

theorem post_act {w w3 : World} {p : Nat} {dv av rv rv' : Value} {R : List UInt8} (ht : Trio w p dv av rv) (hr : BRow w rv R) (ho : Onto w w3 rv rv') : Trio w3 p dv av rv := by
  refine (ho.grown.block p ht.lt (fun e => ?_)).trans ht
  obtain ⟨cs, fz, hc⟩ := hr.mem e.symm
  exact two_types hc ht (by decide) rfl

theorem owns_slice {w : World} {n : Nat} {v : Value} {xs : List Value} (h : w.ownsRow 0 61 1 v n xs) : ∃ ad c, v = .slice ad n c := by
  rcases h.2 with ⟨rfl, h0⟩ | ⟨g, cap, cur, rfl, _⟩
  · exact ⟨none, 0, by rw [h0]⟩
  · exact ⟨_, cap, rfl⟩

/-- What a call that does an act leaves. -/
def DoneF (w : World) (p : Nat) (D : List UInt8) (A : List Do) (a : Do) (M I J : Nat → Prop) (e : Ending) (w' : World) : Prop :=
  e = .returned (.tuple #[]) ∧ ∃ M' : Nat → Prop, FileAt w' p D (A ++ [a]) M' (fun g => I g ∨ J g) ∧ (∀ g, M' g → M g ∨ w.heap.size ≤ g) ∧ Kept M w w'

set_option maxHeartbeats 1000000 in
set_option maxRecDepth 100000 in
theorem do_app {w : World} {p : Nat} {D : List UInt8} {A : List Do} {M I J : Nat → Prop} {b : List UInt8} {f : Value} (h : FileAt w p D A M I) (hf : ActAt w f (.app b) J) (hJ : ∀ g, J g → g < w.heap.size ∧ ¬ M g) (hb0 : b ≠ []) (hbulk : bulk D (A ++ [.app b]) ≤ 100000) (hlen : A.length ≤ 1000) :
    Calls Try.prog 26 #[.pointer (some ⟨p, 0, none⟩), f] w (DoneF w p D A (.app b) M I J) := by
  obtain ⟨dv, av, rv, fs, ht, hd, hr, ha, hA, hs, m0, m1, m2, m3⟩ := h.it
  obtain ⟨c, va, rfl, hc, hva, hJc, hJv⟩ := id hf
  have HF : Hid (FileAt w p D A M I ∧ Trio w p dv av rv ∧ BRow w dv D ∧ BRow w rv (reads D A) ∧ w.ownsRow 0 61 1 av A.length fs ∧ ActsAt w fs A I ∧ (dv.ownBlock = rv.ownBlock → capOf dv = capOf rv ∧ D <+: reads D A) ∧ M p ∧ (∀ g, dv.ownBlock = some g → M g) ∧ (∀ g, rv.ownBlock = some g → M g) ∧ (∀ g, av.ownBlock = some g → M g) ∧ ActAt w (.func (.func 27) #[] #[.pointer (some ⟨c, 0, none⟩)]) (.app b) J ∧ (∀ g, J g → g < w.heap.size ∧ ¬ M g) ∧ bulk D (A ++ [.app b]) ≤ 100000) :=
    Lib.hid ⟨h, ht, hd, hr, ha, hA, hs, m0, m1, m2, m3, hf, hJ, hbulk⟩
  have k1 := (show Trio w p dv av rv from ht).at1
  have k2 := (show Trio w p dv av rv from ht).at2
  have hpl := (show Trio w p dv av rv from ht).lt
  have hrb := reads_length D A
  rw [bulk_app] at hbulk
  have HA := Lib.hid ha
  have HB0 := Lib.hid hb0
  have HLEN := hlen
  have hlb : (reads D A).length + b.length ≤ 1000000 := by omega
  obtain ⟨ada, ca, rfl⟩ : ∃ ad c, av = .slice ad A.length c := by
    rcases ha.2 with ⟨rfl, h0⟩ | ⟨g, cap, cur, rfl, _⟩
    · exact ⟨none, 0, by rw [h0]⟩
    · exact ⟨_, cap, rfl⟩
  obtain ⟨adr, cr, rfl, _, _⟩ := hr.shape
  clear h ht hd hr ha hA hs m0 m1 m2 m3 hf hJ hc hva hJc hJv hb0 hbulk hlen hrb
  go_enter Try.func26, Try.ntmps26
  go_wp2_with (first
    | (at_builtin; refine wpList_append_act rfl _ _ rfl rfl (.slice ada A.length ca) A.length fs w.heap.size (.func (.func 27) #[] #[.pointer (some ⟨c, 0, none⟩)]) rfl rfl (by simp) rfl (HA.out.alloc _) (by omega) ?_; intro av' w1 o1 g1 l1;
        obtain ⟨ada', ca', rfl⟩ := owns_slice o1;
        obtain ⟨t1, t2, r2, f2⟩ := (pre_act (av' := .slice ada' (A.length + 1) ca') HF.out.2.1 HF.out.2.2.2.1 HF.out.2.2.2.2.1 HF.out.2.2.2.2.2.2.2.1 HF.out.2.2.2.2.2.2.2.2.2.2.1 HF.out.2.2.2.2.2.2.2.2.2.2.2.1 HF.out.2.2.2.2.2.2.2.2.2.2.2.2.1 (below_alloc' (Below.refl _ w)) g1);
        have y1 := t1.at1; have z1 := t1.free 1; have y2 := t2.at2; have HT2 := Lib.hid t2; have HR2 := Lib.hid r2; obtain ⟨c0, va0, hfe, hcc, hvv, _, _⟩ := f2; cases hfe; have HCC := Lib.hid hcc; have HVV := Lib.hid hvv; have HO1 := Lib.hid o1; have HG1 := Lib.hid g1; have HL1 := Lib.hid l1; clear t1 t2 r2 hcc hvv o1 g1 l1)
    | (go_at_call 27; (with_reducible refine Calls.mono (app_any (b := b) HR2.out HCC.out HVV.out HB0.out hlb) ?_); rintro e w3 ⟨rv', rfl, r3, o3⟩;
        have t3 := post_act HT2.out HR2.out o3; obtain ⟨adr', cr', hv3, _, _⟩ := r3.shape; rw [List.length_append] at hv3; subst hv3; have y3 := t3.at2; have z3 := t3.free 2; have HR3 := Lib.hid r3; have HO3 := Lib.hid o3; clear t3 r3 o3))
  obtain ⟨h, ht, hd, hr, ha, hA, hs, m0, m1, m2, m3, hf, hJ, hbulk⟩ := HF.out
  have hpost := done_file h ht hd hr ha hA hs m0 m1 m2 m3 hf hJ ⟨HB0.out, trivial⟩ hbulk (below_alloc' (Below.refl _ w)) HG1.out HO1.out HL1.out HR3.out HO3.out (fun _ => List.prefix_append _ _)
  exact bodyPost_end (v := .tuple #[]) (by simp [results, Try.results26, go_sem]) rfl ⟨rfl, _, hpost⟩
set_option maxHeartbeats 1000000 in
set_option maxRecDepth 100000 in
theorem do_cut {w : World} {p : Nat} {D : List UInt8} {A : List Do} {M I J : Nat → Prop} {n : Nat} {f : Value} (h : FileAt w p D A M I) (hf : ActAt w f (.cut n) J) (hJ : ∀ g, J g → g < w.heap.size ∧ ¬ M g) (hb0 : n < (reads D A).length) (hbulk : bulk D A ≤ 100000) (hlen : A.length ≤ 1000) :
    Calls Try.prog 26 #[.pointer (some ⟨p, 0, none⟩), f] w (DoneF w p D A (.cut n) M I J) := by
  obtain ⟨dv, av, rv, fs, ht, hd, hr, ha, hA, hs, m0, m1, m2, m3⟩ := h.it
  obtain ⟨c, rfl, hc, hJc⟩ := id hf
  rw [← bulk_cut D A n] at hbulk
  have HF : Hid (FileAt w p D A M I ∧ Trio w p dv av rv ∧ BRow w dv D ∧ BRow w rv (reads D A) ∧ w.ownsRow 0 61 1 av A.length fs ∧ ActsAt w fs A I ∧ (dv.ownBlock = rv.ownBlock → capOf dv = capOf rv ∧ D <+: reads D A) ∧ M p ∧ (∀ g, dv.ownBlock = some g → M g) ∧ (∀ g, rv.ownBlock = some g → M g) ∧ (∀ g, av.ownBlock = some g → M g) ∧ ActAt w (.func (.func 36) #[] #[.pointer (some ⟨c, 0, none⟩)]) (.cut n) J ∧ (∀ g, J g → g < w.heap.size ∧ ¬ M g) ∧ bulk D (A ++ [.cut n]) ≤ 100000) :=
    Lib.hid ⟨h, ht, hd, hr, ha, hA, hs, m0, m1, m2, m3, hf, hJ, hbulk⟩
  have k1 := (show Trio w p dv av rv from ht).at1
  have k2 := (show Trio w p dv av rv from ht).at2
  have hpl := (show Trio w p dv av rv from ht).lt
  have hrb := reads_length D A
  have HA := Lib.hid ha
  have HB0 := Lib.hid hb0
  have HLEN := hlen
  have hlb : (reads D A).length ≤ 900000 := by rw [bulk_cut] at hbulk; omega
  obtain ⟨ada, ca, rfl⟩ : ∃ ad c, av = .slice ad A.length c := by
    rcases ha.2 with ⟨rfl, h0⟩ | ⟨g, cap, cur, rfl, _⟩
    · exact ⟨none, 0, by rw [h0]⟩
    · exact ⟨_, cap, rfl⟩
  obtain ⟨adr, cr, rfl, _, _⟩ := hr.shape
  clear h ht hd hr ha hA hs m0 m1 m2 m3 hf hJ hc hJc hb0 hbulk hlen hrb
  go_enter Try.func26, Try.ntmps26
  go_wp2_with (first
    | (at_builtin; refine wpList_append_act rfl _ _ rfl rfl (.slice ada A.length ca) A.length fs w.heap.size (.func (.func 36) #[] #[.pointer (some ⟨c, 0, none⟩)]) rfl rfl (by simp) rfl (HA.out.alloc _) (by omega) ?_; intro av' w1 o1 g1 l1;
        obtain ⟨ada', ca', rfl⟩ := owns_slice o1;
        obtain ⟨t1, t2, r2, f2⟩ := (pre_act (av' := .slice ada' (A.length + 1) ca') HF.out.2.1 HF.out.2.2.2.1 HF.out.2.2.2.2.1 HF.out.2.2.2.2.2.2.2.1 HF.out.2.2.2.2.2.2.2.2.2.2.1 HF.out.2.2.2.2.2.2.2.2.2.2.2.1 HF.out.2.2.2.2.2.2.2.2.2.2.2.2.1 (below_alloc' (Below.refl _ w)) g1);
        have y1 := t1.at1; have z1 := t1.free 1; have y2 := t2.at2; have HT2 := Lib.hid t2; have HR2 := Lib.hid r2; obtain ⟨c0, hfe, hcc, _⟩ := f2; cases hfe; have HCC := Lib.hid hcc; have HO1 := Lib.hid o1; have HG1 := Lib.hid g1; have HL1 := Lib.hid l1; clear t1 t2 r2 hcc o1 g1 l1)
    | (go_at_call 36; (with_reducible refine Calls.mono (cut_act HR2.out HCC.out HB0.out hlb) ?_); rintro e w3 ⟨rv', rfl, r3, o3, n3⟩;
        have t3 := post_act HT2.out HR2.out o3; obtain ⟨adr', cr', hv3, _, _⟩ := r3.shape; obtain ⟨nn, hnn⟩ : ∃ nn, (List.take n (reads D A)).length = nn := ⟨_, rfl⟩; rw [hnn] at hv3; clear hnn; subst hv3; have y3 := t3.at2; have z3 := t3.free 2; have HR3 := Lib.hid r3; have HNE := Lib.hid n3; have HO3 := Lib.hid o3;  clear t3 r3 o3))
  obtain ⟨h, ht, hd, hr, ha, hA, hs, m0, m1, m2, m3, hf, hJ, hbulk⟩ := HF.out
  have hpost := done_file h ht hd hr ha hA hs m0 m1 m2 m3 hf hJ ⟨HB0.out, trivial⟩ hbulk (below_alloc' (Below.refl _ w)) HG1.out HO1.out HL1.out HR3.out HO3.out (fun e => absurd e HNE.out)
  exact bodyPost_end (v := .tuple #[]) (by simp [results, Try.results26, go_sem]) rfl ⟨rfl, _, hpost⟩
end Go.Proofs.Ytloijbhilfbliaa

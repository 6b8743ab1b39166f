/-
  The program's disk and the document's, side by side, beside blocks of the walk's own. The document's disk: what is read of a name's file. The document's disk: one more file, its row grown where it stands. Flocks: a new disk, a restart, an append of one text; what stays of how great they are. The law's own disk: example. What the law's works reckons. The chapter's examples: works. The document's disk: a new one.
-/
import Derived.Test.YtmmoilmfpiclgaaGreatT32
import Derived.Test.YtmmoilmfpiclgaaGreatT30
import Derived.Test.YtmmoilmfpiclgaaGreatT33
import Derived.Test.YtmmoilmfpiclgaaGreatT24
import Derived.Test.YtmmoilmfpiclgaaGreatT29
import Derived.Test.YtmmoilmfpiclgaaGreatT28
set_option linter.unusedVariables false
set_option linter.unusedSimpArgs false
namespace Go.Proofs.YtmmoilmfpiclgaaGreat
open Go.RowKit Go.Shelf
open Fld (FS Names FAct actsOn foundN foundB findT withT withoutT GoodN Rising mayB nam nameMax FolderS FolderIn ARow textsOf capOf)

theorem RefD.same {w W : World} {r : Nat} {S : DS} {M : Nat → Nat → Prop} (h : RefD w r S M) (hs : ∀ g, All M g → W.heap[g]? = w.heap[g]?) (hz : w.heap.size ≤ W.heap.size) : RefD W r S M := by
  obtain ⟨q, fv, P, hi⟩ := h.it
  have hm : ∀ k g, M k g → W.heap[g]? = w.heap[g]? := fun k g hg => hs g ⟨k, hg⟩
  exact ⟨⟨q, fv, P, (hm 1 r hi.own).trans hi.blk, hi.dir.same (hm 0) hz, hi.own, owns_same hi.row fun g hg => hm 2 g (hi.rowM g hg), hi.rowM, fun n hn hn' => (hi.files n hn hn').same (hm (n + 3)) hz, hi.zero⟩, h.good, h.parts.grow hz, h.room, h.armed⟩
theorem RefD.blocks {w : World} {r : Nat} {S : DS} {M : Nat → Nat → Prop} (h : RefD w r S M) {g : Nat} (hg : All M g) : g < w.heap.size := by
  obtain ⟨k, hk⟩ := hg
  exact h.parts.mem k g (.inl hk)

/-- p tells S, r tells T; ex: blocks of the walk's own. -/
structure BothV (w0 W : World) (p r : Nat) (S T : DS) (ex : List (Nat × Obj)) (v : DV) (M : Nat → Nat → Prop) : Prop where
  d : DiskP W p S v
  e : RefD W r T M
  n1 : ∀ g, All v.M g ∨ All v.I g → w0.heap.size ≤ g
  n2 : ∀ g, All M g → w0.heap.size ≤ g
  ap : ∀ g, All M g → ¬ All v.M g ∧ ¬ All v.I g
  ex : ∀ x ∈ ex, W.heap[x.1]? = some x.2 ∧ (¬ All v.M x.1 ∧ ¬ All v.I x.1) ∧ ¬ All M x.1
  bl : Below w0.heap.size w0 W
def Both (w0 W : World) (p r : Nat) (S T : DS) (ex : List (Nat × Obj)) : Prop := ∃ v M, BothV w0 W p r S T ex v M

section
variable {w0 W W' : World} {p r : Nat} {S T : DS} {ex : List (Nat × Obj)}
theorem Both.below (h : Both w0 W p r S T ex) : Below w0.heap.size w0 W := by
  obtain ⟨v, M, h⟩ := h
  exact h.bl
theorem Both.at (h : Both w0 W p r S T ex) {x : Nat × Obj} (hx : x ∈ ex) : W.heap[x.1]? = some x.2 := by
  obtain ⟨v, M, h⟩ := h
  exact (h.ex x hx).1
theorem Both.next (h : Both w0 W p r S T ex) (hb : Below W.heap.size W W') : Both w0 W' p r S T ex := by
  obtain ⟨v, M, h⟩ := h
  exact ⟨v, M, h.d.below hb, h.e.below hb, h.n1, h.n2, h.ap, fun x hx => ⟨(hb.block x.1 (Array.getElem?_eq_some_iff.1 (h.ex x hx).1).1).trans (h.ex x hx).1, (h.ex x hx).2⟩, Below.next h.bl hb⟩
theorem Both.less (h : Both w0 W p r S T ex) {ex' : List (Nat × Obj)} (hs : ∀ x ∈ ex', x ∈ ex) : Both w0 W p r S T ex' := by
  obtain ⟨v, M, h⟩ := h
  exact ⟨v, M, h.d, h.e, h.n1, h.n2, h.ap, fun x hx => h.ex x (hs x hx), h.bl⟩
theorem Both.own (h : Both w0 W p r S T ex) (hb : Below W.heap.size W W') {b : Nat} {o : Obj} (ho : W'.heap[b]? = some o) (hn : W.heap.size ≤ b) : Both w0 W' p r S T ((b, o) :: ex) := by
  obtain ⟨v, M, k⟩ := Both.next h hb
  obtain ⟨v1, M1, h⟩ := h
  refine ⟨v1, M1, h.d.below hb, h.e.below hb, h.n1, h.n2, h.ap, fun x hx => ?_, Below.next h.bl hb⟩
  rcases List.mem_cons.1 hx with rfl | hx
  · exact ⟨ho, ⟨fun hm => by have := h.d.blocks b (.inl hm); omega, fun hm => by have := h.d.blocks b (.inr hm); omega⟩, fun hm => by have := h.e.blocks hm; omega⟩
  · exact ⟨(hb.block x.1 (Array.getElem?_eq_some_iff.1 (h.ex x hx).1).1).trans (h.ex x hx).1, (h.ex x hx).2⟩
/-- A method of the program's. -/
theorem Both.prog (h : Both w0 W p r S T ex) {f : FuncId} {args : Array Value} {rv : Value} {S' : DS} (hc : ∀ v, DiskP W p S v → (∀ x ∈ ex, ¬ All v.M x.1) → (∀ g, All v.M g ∨ All v.I g → w0.heap.size ≤ g) → Calls Tryz.prog f args W fun e w' => e = .returned rv ∧ WentK W p v S' w') :
    Calls Tryz.prog f args W fun e w' => e = .returned rv ∧ Both w0 w' p r S' T ex := by
  obtain ⟨v, M, h⟩ := h
  refine (hc v h.d (fun x hx => (h.ex x hx).2.1.1) h.n1).mono ?_
  rintro e w' ⟨he, v', d1, t1⟩
  have hz := t1.kept.size
  have hb := h.bl.size
  refine ⟨he, v', M, d1, h.e.same (fun g hg => t1.kept.block g (h.e.blocks hg) (h.ap g hg).1) hz, fun g hg => ?_, h.n2, fun g hg => ⟨fun hm => ?_, fun hm => ?_⟩, fun x hx => ?_, h.bl.trans (t1.kept.to hb fun g hg => h.n1 g (.inl hg))⟩
  · rcases hg with hg | hg
    · rcases t1.m g hg with k | k
      · exact h.n1 g (.inl k)
      · omega
    · rcases t1.i g hg with k | k
      · exact h.n1 g (.inr k)
      · omega
  · rcases t1.m g hm with k | k
    · exact (h.ap g hg).1 k
    · have := h.e.blocks hg; omega
  · rcases t1.i g hm with k | k
    · exact (h.ap g hg).2 k
    · have := h.e.blocks hg; omega
  · obtain ⟨k1, ⟨k2, k3⟩, k4⟩ := h.ex x hx
    have hl := (Array.getElem?_eq_some_iff.1 k1).1
    refine ⟨(t1.kept.block x.1 hl k2).trans k1, ⟨fun hm => ?_, fun hm => ?_⟩, k4⟩
    · rcases t1.m x.1 hm with k | k
      · exact k2 k
      · omega
    · rcases t1.i x.1 hm with k | k
      · exact k3 k
      · omega
/-- A method of the document's. -/
theorem Both.ref (h : Both w0 W p r S T ex) {f : FuncId} {args : Array Value} {rv : Value} {T' : DS} (hc : ∀ M, RefD W r T M → (∀ x ∈ ex, ¬ All M x.1) → (∀ g, All M g → w0.heap.size ≤ g) → Calls Tryz.prog f args W fun e w' => e = .returned rv ∧ WentD W r M T' w') :
    Calls Tryz.prog f args W fun e w' => e = .returned rv ∧ Both w0 w' p r S T' ex := by
  obtain ⟨v, M, h⟩ := h
  refine (hc M h.e (fun x hx => (h.ex x hx).2.2) h.n2).mono ?_
  rintro e w' ⟨he, M', e1, t1, t2⟩
  have hz := t2.size
  have hb := h.bl.size
  refine ⟨he, v, M', h.d.same (fun g hg => t2.block g (h.d.blocks g hg) fun hm => ?_) hz, e1, h.n1, fun g hg => ?_, fun g hg => ⟨fun hm => ?_, fun hm => ?_⟩, fun x hx => ?_, h.bl.trans (t2.to hb h.n2)⟩
  · rcases hg with hg | hg
    · exact (h.ap g hm).1 hg
    · exact (h.ap g hm).2 hg
  · rcases t1 g hg with k | k
    · exact h.n2 g k
    · omega
  · rcases t1 g hg with k | k
    · exact (h.ap g k).1 hm
    · have := h.d.blocks g (.inl hm); omega
  · rcases t1 g hg with k | k
    · exact (h.ap g k).2 hm
    · have := h.d.blocks g (.inr hm); omega
  · obtain ⟨k1, k2, k4⟩ := h.ex x hx
    have hl := (Array.getElem?_eq_some_iff.1 k1).1
    refine ⟨(t2.block x.1 hl k4).trans k1, k2, fun hm => ?_⟩
    rcases t1 x.1 hm with k | k
    · exact k4 k
    · omega
/-- Looks. -/
theorem Both.pread (h : Both w0 W p r S T ex) {f : FuncId} {args : Array Value} {R : Ending → World → Prop} (hc : ∀ v, DiskP W p S v → Calls Tryz.prog f args W R) : Calls Tryz.prog f args W R := by
  obtain ⟨v, M, h⟩ := h
  exact hc v h.d
theorem Both.rread (h : Both w0 W p r S T ex) {f : FuncId} {args : Array Value} {R : Ending → World → Prop} (hc : ∀ M, RefD W r T M → Calls Tryz.prog f args W R) : Calls Tryz.prog f args W R := by
  obtain ⟨v, M, h⟩ := h
  exact hc M h.e
/-- Two new ones. -/
theorem Both.start {v : DV} {M : Nat → Nat → Prop} (hd : DiskP W p S v) (hv : ∀ g, All v.M g ∨ All v.I g → w0.heap.size ≤ g) (hb : Below w0.heap.size w0 W) (he : RefD W' r T M) (hM : ∀ g, All M g → W.heap.size ≤ g) (hb2 : Below W.heap.size W W') : Both w0 W' p r S T [] := by
  have hz := hb.size
  exact ⟨v, M, hd.below hb2, he, hv, fun g hg => by have := hM g hg; omega, fun g hg => ⟨fun hm => by have := hd.blocks g (.inl hm); have := hM g hg; omega, fun hm => by have := hd.blocks g (.inr hm); have := hM g hg; omega⟩, fun x hx => (by cases hx), Below.next hb hb2⟩
end

/-! What hangs on a block of another type than the folder's acts. -/
section
variable {w W : World} {b : Nat} (hb : ∃ cs, w.heap[b]? = some (.cells cs 163 (0, 0)))
include hb
theorem not_act {g : Nat} {cs : Array Value} {t : TypeId} {fz : Nat × Nat} (hg : w.heap[g]? = some (.cells cs t fz)) (ht : t ≠ 163) : g ≠ b := fun e => by
  obtain ⟨cs', h⟩ := hb
  rw [e, h] at hg
  injection hg with hg
  injection hg with h1 h2
  exact ht h2.symm
theorem brow_but {v : Value} {l : List UInt8} (h : BRow w v l) (he : ∀ g, v.ownBlock = some g → g ≠ b → W.heap[g]? = w.heap[g]?) : BRow W v l := h.same fun g hg => by
  obtain ⟨cs, fz, hh⟩ := h.mem hg
  exact he g hg (not_act hb hh (by decide))
theorem actAt_but {f : Value} {a : Do} {I : Nat → Prop} (h : ActAt w f a I) (he : ∀ g, I g → g ≠ b → W.heap[g]? = w.heap[g]?) : ActAt W f a I := by
  cases a with
  | app x =>
    obtain ⟨c, v, h1, h2, h3, h4, h5⟩ := h
    exact ⟨c, v, h1, (he c h4 (not_act hb h2 (by decide))).trans h2, brow_but hb h3 (fun g hg => he g (h5 g hg)), h4, h5⟩
  | cut n =>
    obtain ⟨c, h1, h2, h3⟩ := h
    exact ⟨c, h1, (he c h3 (not_act hb h2 (by decide))).trans h2, h3⟩
theorem ownsRow_but {base size n : Nat} {e : TypeId} {v : Value} {xs : List Value} (h : w.ownsRow base e size v n xs) (hne : e ≠ 163) (he : ∀ g, v.ownBlock = some g → g ≠ b → W.heap[g]? = w.heap[g]?) : W.ownsRow base e size v n xs := by
  refine ⟨h.1, ?_⟩
  rcases h.2 with h' | ⟨g, cap, cur, rfl, h2, h3, h4⟩
  · exact .inl h'
  · exact .inr ⟨g, cap, cur, rfl, h2, (he g rfl (not_act hb h3 hne)).trans h3, h4⟩
theorem fileAt_but {p : Nat} {D : List UInt8} {A : List Do} {M I : Nat → Prop} (h : FileAt w p D A M I) (he : ∀ g, M g ∨ I g → g ≠ b → W.heap[g]? = w.heap[g]?) (hs : w.heap.size ≤ W.heap.size) : FileAt W p D A M I := by
  obtain ⟨dv, av, rv, fs, h1, h2, h3, h4, h5, h6, h7, h8, h9, h10⟩ := h.it
  refine ⟨⟨dv, av, rv, fs, (he p (.inl h7) (not_act hb h1 (by decide))).trans h1, brow_but hb h2 (fun g hg => he g (.inl (h8 g hg))), brow_but hb h3 (fun g hg => he g (.inl (h9 g hg))), ownsRow_but hb h4 (by decide) (fun g hg => he g (.inl (h10 g hg))), ⟨h5.1, fun k hk => ?_⟩, h6, h7, h8, h9, h10⟩,
    h.fits, h.small, fun g hg => Nat.lt_of_lt_of_le (h.mem g hg) hs, h.apart⟩
  obtain ⟨f, k1, k2⟩ := h5.2 k hk
  exact ⟨f, k1, actAt_but hb k2 fun g hg => he g (.inr hg)⟩
end

/-- A disk whose row of acts may have grown behind its end. -/
theorem DiskP.same_row {w W : World} {p : Nat} {S : DS} {v : DV} (h : DiskP w p S v) (hs : ∀ g, All v.M g ∨ All v.I g → v.av.ownBlock ≠ some g → W.heap[g]? = w.heap[g]?) (hr : ARow W v.av v.fs) (hz : w.heap.size ≤ W.heap.size) : DiskP W p S v := by
  cases hav : v.av.ownBlock with
  | none => exact h.same (fun g hg => hs g hg (by rw [hav]; simp)) hz
  | some b =>
    have hbt := h.row.mem hav
    obtain ⟨fv, lv, lost, armed, P, h1, hk⟩ := h.it
    have same : ∀ k g, v.M k g ∨ v.I k g → g ≠ b → W.heap[g]? = w.heap[g]? := fun k g hg hne => hs g (hg.imp (fun h => ⟨k, h⟩) (fun h => ⟨k, h⟩)) (by rw [hav]; intro e; injection e with e; exact hne e.symm)
    have hbM : ∀ k, k ≠ 0 → ¬ v.M k b := fun k hk0 hm => by
      rcases @FolderIn.room (fin _) _ _ _ _ _ _ _ _ _ h1.fold b hav with r | r
      · exact h.parts.apart 0 k b (fun e => hk0 e.symm) r hm
      · exact h.parts.read 0 k b r.1 hm
    exact ⟨⟨fv, lv, lost, armed, P, { h1 with
      fold := @FolderIn.same_row (fin _) _ _ _ _ _ _ _ _ _ _ h1.fold (fun g hg hne => hs g (hg.imp (fun h => ⟨0, h⟩) (fun h => ⟨0, h⟩)) hne) hr hz
      map := h1.map.same fun b' hb' => same 1 b' (.inl (h1.mapM b' hb')) fun e => hbM 1 (by decide) (e ▸ h1.mapM b' hb')
      row := owns_same h1.row fun g hg => same 2 g (.inl (h1.rowM g hg)) fun e => hbM 2 (by decide) (e ▸ h1.rowM g hg)
      files := fun n b' hn => ⟨fileAt_but hbt (h1.files n b' hn).1 (fun g hg' hne => same (n + 3) g hg' hne) hz, (h1.files n b' hn).2⟩ }, hk⟩, h.good, h.parts.grow hz, h.room⟩

/-- p tells S, its copy c tells U, r tells T. -/
structure TriV (w0 W : World) (p : Nat) (S : DS) (c : Nat) (U : DS) (r : Nat) (T : DS) (v u : DV) (M : Nat → Nat → Prop) : Prop where
  d : DiskP W p S v
  d2 : DiskP W c U u
  e : RefD W r T M
  a1 : ∀ g, All u.M g → ¬ All v.M g ∧ ¬ All v.I g
  a2 : ∀ g, All u.I g → ¬ All v.M g ∨ u.av.ownBlock = some g
  a3 : ∀ b, u.av.ownBlock = some b → ¬ All v.M b ∨ (v.av.ownBlock = some b ∧ u.fs.length ≤ v.fs.length ∧ v.fs.take u.fs.length = u.fs)
  cap : capOf u.av = u.fs.length
  a4 : ∀ g, All M g → (¬ All v.M g ∧ ¬ All v.I g) ∧ ¬ All u.M g ∧ ¬ All u.I g
  n1 : ∀ g, (All v.M g ∨ All v.I g) ∨ (All u.M g ∨ All u.I g) ∨ All M g → w0.heap.size ≤ g
  bl : Below w0.heap.size w0 W
def Tri (w0 W : World) (p : Nat) (S : DS) (c : Nat) (U : DS) (r : Nat) (T : DS) : Prop := ∃ v u M, TriV w0 W p S c U r T v u M
theorem Tri.both {w0 W : World} {p c r : Nat} {S U T : DS} (h : Tri w0 W p S c U r T) : Both w0 W c r U T [] := by
  obtain ⟨v, u, M, h⟩ := h
  exact ⟨u, M, h.d2, h.e, fun g hg => h.n1 g (.inr (.inl hg)), fun g hg => h.n1 g (.inr (.inr hg)), fun g hg => (h.a4 g hg).2, fun x hx => (by cases hx), h.bl⟩
theorem Tri.next {w0 W W' : World} {p c r : Nat} {S U T : DS} (h : Tri w0 W p S c U r T) (hb : Below W.heap.size W W') : Tri w0 W' p S c U r T := by
  obtain ⟨v, u, M, h⟩ := h
  exact ⟨v, u, M, h.d.below hb, h.d2.below hb, h.e.below hb, h.a1, h.a2, h.a3, h.cap, h.a4, h.n1, Below.next h.bl hb⟩
/-- A copy comes. -/
theorem tri_copy {w0 W : World} {p r : Nat} {S T : DS} {ex : List (Nat × Obj)} (h : Both w0 W p r S T ex) (hl : S.fold.weight ≤ 80000) (ha : ∀ n, (S.file n).A.length ≤ 1000) :
    Calls Tryz.prog 11 #[.pointer (some ⟨p, 0, none⟩)] W fun e w' => ∃ c, e = .returned (.pointer (some ⟨c, 0, none⟩)) ∧ Tri w0 w' p S c S r T := by
  obtain ⟨v, M, h⟩ := h
  refine (disk_copy h.d hl ha).mono ?_
  rintro e w' ⟨c, u, rfl, k1, k2, k3, k4, k5, k6, hb⟩
  have hz := h.bl.size
  have hlt := h.d.blocks
  have hav : ∀ b, u.av.ownBlock = some b → v.av.ownBlock = some b := fun b hb' => by
    rcases k4 with k | k
    · rw [k] at hb'; cases hb'
    · rw [← k]; exact hb'
  have hrow : ∀ b, v.av.ownBlock = some b → All v.M b ∨ All v.I b := fun b hb' => by
    obtain ⟨fv, lv, lost, armed, P, h1, _⟩ := h.d.it
    rcases @FolderIn.room (fin _) _ _ _ _ _ _ _ _ _ h1.fold b hb' with r | r
    · exact .inl ⟨0, r⟩
    · exact .inr ⟨0, r.1⟩
  have hui : ∀ g, All u.I g → All v.M g ∨ All v.I g := fun g hg => by
    rcases k3 g hg with k | k
    · exact .inr k
    · exact hrow g k.1
  refine ⟨c, rfl, v, u, M, h.d.below hb, k1, h.e.below hb, fun g hg => ⟨fun hm => ?_, fun hm => ?_⟩, fun g hg => ?_, fun b hb' => .inr ⟨hav b hb', by rw [k6]; exact Nat.le_refl _, by rw [k6, List.take_length]⟩, by rw [k5, k6], fun g hg => ⟨h.ap g hg, fun hm => ?_, fun hm => ?_⟩, fun g hg => ?_, Below.next h.bl hb⟩
  · have := k2 g hg; have := hlt g (.inl hm); omega
  · have := k2 g hg; have := hlt g (.inr hm); omega
  · rcases k3 g hg with k | k
    · refine .inl fun hm => ?_
      obtain ⟨a, ha⟩ := k
      obtain ⟨b, hb'⟩ := hm
      exact h.d.parts.read a b g ha hb'
    · exact .inr k.2
  · have := k2 g hm; have := h.e.blocks hg; omega
  · rcases hui g hm with k | k
    · exact (h.ap g hg).1 k
    · exact (h.ap g hg).2 k
  · rcases hg with hg | (hg | hg) | hg
    · exact h.n1 g hg
    · have := k2 g hg; omega
    · exact h.n1 g (hui g hg)
    · exact h.n2 g hg
/-- A method of the first. -/
theorem Tri.went {w0 W : World} {p c r : Nat} {S S' U T : DS} {f : FuncId} {args : Array Value} {rv : Value} (h : Tri w0 W p S c U r T) (hq : ∀ v, DiskP W p S v → (∀ g, All v.M g ∨ All v.I g → w0.heap.size ≤ g) → Calls Tryz.prog f args W fun e w' => e = .returned rv ∧ WentK W p v S' w') :
    Calls Tryz.prog f args W fun e w' => e = .returned rv ∧ Tri w0 w' p S' c U r T := by
  obtain ⟨v, u, M, h⟩ := h
  refine (hq v h.d fun g hg => h.n1 g (.inl hg)).mono ?_
  rintro e w' ⟨he, v', d1, t1⟩
  have hz := h.bl.size
  have hz' := t1.kept.size
  have hrow : ARow w' u.av u.fs := by
    rcases h.d2.row with ⟨q1, q2⟩ | ⟨b, cap, cs, q0, q1, q2, q3, q4, q5⟩
    · exact .inl ⟨q1, q2⟩
    · have hob : u.av.ownBlock = some b := by rw [q0]; rfl
      have hcap' : cap = u.fs.length := by have := h.cap; rw [q0] at this; exact this
      rcases h.a3 b hob with k | ⟨r1, r2, r3⟩
      · exact .inr ⟨b, cap, cs, q0, q1, q2, (t1.kept.block b (Array.getElem?_eq_some_iff.1 q3).1 k).trans q3, q4, q5⟩
      · have := (t1.rows b u.fs.length r1 r2).1
        rw [r3] at this
        rw [q0, hcap']
        exact this
  refine ⟨he, v', u, M, d1, h.d2.same_row (fun g hg hne => t1.kept.block g (h.d2.blocks g hg) fun hm => ?_) hrow hz', h.e.same (fun g hg => t1.kept.block g (h.e.blocks hg) (h.a4 g hg).1.1) hz', fun g hg => ⟨fun hm => ?_, fun hm => ?_⟩, fun g hg => ?_, fun b hb => ?_, h.cap, fun g hg => ⟨⟨fun hm => ?_, fun hm => ?_⟩, (h.a4 g hg).2⟩, fun g hg => ?_, h.bl.trans (t1.kept.to hz fun g hg => h.n1 g (.inl (.inl hg)))⟩
  · rcases hg with hg | hg
    · exact (h.a1 g hg).1 hm
    · rcases h.a2 g hg with k | k
      · exact k hm
      · exact hne k
  · rcases t1.m g hm with k | k
    · exact (h.a1 g hg).1 k
    · have := h.d2.blocks g (.inl hg); omega
  · rcases t1.i g hm with k | k
    · exact (h.a1 g hg).2 k
    · have := h.d2.blocks g (.inl hg); omega
  · rcases h.a2 g hg with k | k
    · refine .inl fun hm => ?_
      rcases t1.m g hm with k' | k'
      · exact k k'
      · have := h.d2.blocks g (.inr hg); omega
    · exact .inr k
  · have hlt := h.d2.rowLt hb
    rcases h.a3 b hb with k | ⟨r1, r2, r3⟩
    · refine .inl fun hm => ?_
      rcases t1.m b hm with k' | k'
      · exact k k'
      · omega
    · rcases (t1.rows b u.fs.length r1 r2).2 with ⟨s1, s2, s3⟩ | k
      · exact .inr ⟨s1, s2, s3.trans r3⟩
      · exact .inl k
  · rcases t1.m g hm with k | k
    · exact (h.a4 g hg).1.1 k
    · have := h.e.blocks hg; omega
  · rcases t1.i g hm with k | k
    · exact (h.a4 g hg).1.2 k
    · have := h.e.blocks hg; omega
  · rcases hg with (hg | hg) | hg | hg
    · rcases t1.m g hg with k | k
      · exact h.n1 g (.inl (.inl k))
      · omega
    · rcases t1.i g hg with k | k
      · exact h.n1 g (.inl (.inr k))
      · omega
    · exact h.n1 g (.inr (.inl hg))
    · exact h.n1 g (.inr (.inr hg))
end Go.Proofs.YtmmoilmfpiclgaaGreat
namespace Go.Proofs.YtmmoilmfpiclgaaGreat
open Go.RowKit Go.Shelf
open Fld (FS Names FAct actsOn foundN foundB findT withT withoutT GoodN Rising mayB nam nameMax RefS)

set_option maxHeartbeats 2000000 in
set_option maxRecDepth 100000 in
theorem refReadAt_any {w : World} {r : Nat} {S : DS} {M : Nat → Nat → Prop} (hd : RefD w r S M) (s : ByteArray) (a n : Int) (hn5 : S.fold.n ≤ 100000) :
    Calls Tryz.prog 65 #[.pointer (some ⟨r, 0, none⟩), .string s, .int .i64 a, .int .i64 n] w fun e w' => e = .returned (.tuple #[.string ⟨(S.readAt s a n).1.toArray⟩, .int .i64 (S.readAt s a n).2]) ∧ Below w.heap.size w w' := by
  obtain ⟨q, fv, P, h⟩ := hd.it
  have c5 := h.cell.2.2.2.2.2.1
  unfold DS.readAt
  obtain ⟨dn, hdn⟩ : ∃ dn, S.down = dn := ⟨_, rfl⟩
  rw [hdn] at c5 ⊢
  cases dn with
  | true =>
    clear h hd hn5 hdn
    simp only [if_true]
    go_enter Tryz.func65, Tryz.ntmps65
    go_wp2
    go_ret2
    exact ⟨rfl, Below.refl _ _⟩
  | false =>
    simp only [Bool.false_eq_true, if_false]
    have QF := Lib.hid (refFile_any h hd s hn5)
    have hfi := fun x => found_in hd.good (k := s.data.toList) x
    obtain ⟨fb, hfb⟩ : ∃ fb, foundB S.fold.there s.data.toList = fb := ⟨_, rfl⟩
    obtain ⟨fn, hfn⟩ : ∃ fn, foundN S.fold.there s.data.toList = fn := ⟨_, rfl⟩
    rw [hfb, hfn] at hfi QF
    rw [hfb, hfn]
    have HFI := Lib.hid hfi
    have HD := Lib.hid (fun W (hW : Below w.heap.size w W) => h.below hd.parts hW)
    clear hfb hfn hfi hdn h hd hn5
    cases fb with
    | false =>
      simp only [Bool.false_eq_true, if_false] at QF ⊢
      go_enter Tryz.func65, Tryz.ntmps65
      go_wp2_with (go_at_call 121; go_must (with_reducible refine QF.out.mono ?_); rintro e w2 ⟨rfl, hq⟩; have B2 := Lib.hid hq; clear hq)
      go_ret2
      exact ⟨rfl, B2.out⟩
    | true =>
      simp only [if_true, fptr] at QF ⊢
      go_enter Tryz.func65, Tryz.ntmps65
      go_wp2_with (first
        | (go_at_call 121; go_must (with_reducible refine QF.out.mono ?_); rintro e w2 ⟨rfl, hq⟩; have B2 := Lib.hid hq; have H2 := Lib.hid (HD.out _ hq); clear hq)
        | (go_at_call 126; go_must (with_reducible refine (ref_readAt (a := a) (n := n) (H2.out.files fn (HFI.out trivial).1 (HFI.out trivial).2)).mono ?_); rintro e w3 ⟨rfl, hq⟩; have B3 := Lib.hid hq; clear hq))
      go_ret2
      exact ⟨rfl, Below.next B2.out B3.out⟩

set_option maxHeartbeats 2000000 in
set_option maxRecDepth 100000 in
theorem refSize_any {w : World} {r : Nat} {S : DS} {M : Nat → Nat → Prop} (hd : RefD w r S M) (s : ByteArray) (hn5 : S.fold.n ≤ 100000) :
    Calls Tryz.prog 66 #[.pointer (some ⟨r, 0, none⟩), .string s] w fun e w' => e = .returned (.tuple #[.int .i64 ((S.size s).1 : Nat), .int .i64 ((S.size s).2 : Nat)]) ∧ Below w.heap.size w w' := by
  obtain ⟨q, fv, P, h⟩ := hd.it
  have c5 := h.cell.2.2.2.2.2.1
  unfold DS.size
  obtain ⟨dn, hdn⟩ : ∃ dn, S.down = dn := ⟨_, rfl⟩
  rw [hdn] at c5 ⊢
  cases dn with
  | true =>
    clear h hd hn5 hdn
    simp only [if_true]
    go_enter Tryz.func66, Tryz.ntmps66
    go_wp2
    go_ret2
    exact ⟨rfl, Below.refl _ _⟩
  | false =>
    simp only [Bool.false_eq_true, if_false]
    have QF := Lib.hid (refFile_any h hd s hn5)
    have hfi := fun x => found_in hd.good (k := s.data.toList) x
    obtain ⟨fb, hfb⟩ : ∃ fb, foundB S.fold.there s.data.toList = fb := ⟨_, rfl⟩
    obtain ⟨fn, hfn⟩ : ∃ fn, foundN S.fold.there s.data.toList = fn := ⟨_, rfl⟩
    rw [hfb, hfn] at hfi QF
    rw [hfb, hfn]
    have HFI := Lib.hid hfi
    have HD := Lib.hid (fun W (hW : Below w.heap.size w W) => h.below hd.parts hW)
    clear hfb hfn hfi hdn h hd hn5
    cases fb with
    | false =>
      simp only [Bool.false_eq_true, if_false] at QF ⊢
      go_enter Tryz.func66, Tryz.ntmps66
      go_wp2_with (go_at_call 121; go_must (with_reducible refine QF.out.mono ?_); rintro e w2 ⟨rfl, hq⟩; have B2 := Lib.hid hq; clear hq)
      go_ret2
      exact ⟨rfl, B2.out⟩
    | true =>
      simp only [if_true, fptr] at QF ⊢
      go_enter Tryz.func66, Tryz.ntmps66
      go_wp2_with (first
        | (go_at_call 121; go_must (with_reducible refine QF.out.mono ?_); rintro e w2 ⟨rfl, hq⟩; have B2 := Lib.hid hq; have H2 := Lib.hid (HD.out _ hq); clear hq)
        | (go_at_call 127; go_must (with_reducible refine (ref_bytes (H2.out.files fn (HFI.out trivial).1 (HFI.out trivial).2)).mono ?_); rintro e w3 ⟨rfl, hq⟩; have B3 := Lib.hid hq; clear hq))
      go_ret2
      exact ⟨rfl, Below.next B2.out B3.out⟩

end Go.Proofs.YtmmoilmfpiclgaaGreat
namespace Go.Proofs.YtmmoilmfpiclgaaGreat
open Go.RowKit Go.Shelf
open Fld (FS Names FAct actsOn foundN foundB findT withT withoutT GoodN Rising mayB nam nameMax RefS WentR)

/-- The same, of a row that grew where it stands, or elsewhere. -/
theorem RefD.grown {w w2 w4 : World} {r : Nat} {S : DS} {M : Nat → Nat → Prop} {q : Nat} {fv v4 : Value} {P : Nat → Nat} {F : FS} {b : Nat} {D : List UInt8} (hD : D.length ≤ 100000) (h : RefDI w r S M q fv P) (hd : RefD w r S M) (hw : WentR w q (M 0) F w2) (hn : F.n = S.fold.n + 1) (hg : F.good)
    (hb : Kept (M 2) w2 w4) (hnb : w2.heap.size ≤ b) (hbc : w4.heap[b]? = some (.cells #[.string (strO D), .slice none 0 0] 88 (0, 0))) (hov : ∀ g, v4.ownBlock = some g → M 2 g ∨ w2.heap.size ≤ g) (ho : w4.ownsRow 0 85 1 v4 (S.fold.n + 1) ((List.range S.fold.n).map (fun i => fptr (P (i + 1))) ++ [fptr b])) :
    WentD w r M { S with fold := F, file := upd S.file F.n ⟨D, []⟩ } (w4.setCell ⟨r, 1, none⟩ v4) := by
  obtain ⟨J', k1, k2, k3⟩ := hw
  have hkq : Kept (M 0) w w2 := (kept_in k3).mono fun g e => .inl (e ▸ h.dir.lt.2)
  have hs := hkq.size
  have hs2 := hb.size
  have h2lt : ∀ g, M 2 g → g < w.heap.size := fun g hg => hd.parts.mem 2 g (.inl hg)
  have hrl : r < w.heap.size := h.lt
  have hbl := (Array.getElem?_eq_some_iff.1 hbc).1
  have hvb : ∀ g, v4.ownBlock = some g → (M 2 g ∨ w2.heap.size ≤ g) ∧ g < w4.heap.size ∧ g ≠ b := fun g hg' => ⟨hov g hg', (ho.lt g hg').2, fun e => by
    subst e
    obtain ⟨cs, hcs⟩ := Fld.owns_mem ho hg'
    exact absurd rfl (Fld.two_types hcs hbc (by decide))⟩
  have hgr := grown_setCell w4 r 1 v4
  have hsz : (w4.setCell ⟨r, 1, none⟩ v4).heap.size = w4.heap.size := by simp
  have hr2 : w2.heap[r]? = some (.cells (refC q fv S) 84 (0, 0)) := (hd.parts.kept hkq (k := 1) (by decide) r (.inl h.own)).trans h.blk
  have hr4 := (hb.block r (by omega) (hd.parts.apart 1 2 r (by decide) h.own)).trans hr2
  have hkA : Kept (fun g => M 0 g ∨ M 1 g ∨ M 2 g) w (w4.setCell ⟨r, 1, none⟩ v4) := (((hkq.mono (fun g hg => .inl (.inl hg))).trans hb fun g hg => .inl (.inr (.inr hg)))).trans (Kept.grown (M := M 1) hgr fun g e => by cases e; exact h.own) fun g hg => .inl (.inr (.inl hg))
  have hold : ∀ k, k ≠ 0 → k ≠ 1 → k ≠ 2 → ∀ g, M k g → (w4.setCell ⟨r, 1, none⟩ v4).heap[g]? = w.heap[g]? := fun k h0 h1 hk2 g hm => hkA.block g (hd.parts.mem k g (.inl hm)) fun hg => hg.elim (fun hg => hd.parts.apart k 0 g h0 hm hg) fun hg => hg.elim (fun hg => hd.parts.apart k 1 g h1 hm hg) fun hg => hd.parts.apart k 2 g hk2 hm hg
  have hnew : ∀ g, g ≠ r → (w4.setCell ⟨r, 1, none⟩ v4).heap[g]? = w4.heap[g]? := fun g h1 => heap_setCell_ne h1
  have cls : ∀ k g, pput (pput (pput M 0 J') 2 (fun g => v4.ownBlock = some g)) (S.fold.n + 4) (fun g => g = b) k g → (k = 0 ∧ (M 0 g ∨ w.heap.size ≤ g) ∧ g < w2.heap.size) ∨ (k = 2 ∧ (M 2 g ∨ w2.heap.size ≤ g) ∧ g < w4.heap.size ∧ g ≠ b) ∨ (k = S.fold.n + 4 ∧ g = b) ∨ (k ≠ 0 ∧ k ≠ 2 ∧ k ≠ S.fold.n + 4 ∧ M k g ∧ g < w.heap.size) := fun k g hk => by
    by_cases e1 : k = S.fold.n + 4
    · subst e1; rw [pput_same] at hk; exact .inr (.inr (.inl ⟨rfl, hk⟩))
    · rw [pput_other _ _ e1] at hk
      by_cases e2 : k = 2
      · subst e2; rw [pput_same] at hk; exact .inr (.inl ⟨rfl, (hvb g hk).1, (hvb g hk).2⟩)
      · rw [pput_other _ _ e2] at hk
        by_cases e3 : k = 0
        · subst e3; rw [pput_same] at hk; exact .inl ⟨rfl, k2 g hk, k1.mem g hk⟩
        · rw [pput_other _ _ e3] at hk; exact .inr (.inr (.inr ⟨e3, e2, e1, hk, hd.parts.mem k g (.inl hk)⟩))
  refine ⟨pput (pput (pput M 0 J') 2 (fun g => v4.ownBlock = some g)) (S.fold.n + 4) (fun g => g = b), ⟨⟨q, v4, fun m => if m = S.fold.n + 1 then b else P m, cells_setCell hr4 1 v4, ?_, ?_, ?_, ?_, ?_, fun h0 => by rw [show ({ S with fold := F, file := upd S.file F.n ⟨D, []⟩ } : DS).fold.n = F.n from rfl, hn] at h0; omega⟩, hg, ⟨?_, ?_, fun k l g hf => hf.elim⟩, hd.room, hd.armed⟩, ?_, hkA.mono fun g hg => .inl (hg.elim (fun hg => ⟨0, hg⟩) fun hg => hg.elim (fun hg => ⟨1, hg⟩) fun hg => ⟨2, hg⟩)⟩
  · rw [pput_other _ _ (by omega), pput_other _ _ (by omega), pput_same]
    refine k1.same (fun g hg => ?_) (by rw [hsz]; exact hs2)
    have hgl := k1.mem g hg
    have hgr : g ≠ r := fun e => by
      subst e
      rcases k2 g hg with k | k
      · exact hd.parts.apart 0 1 g (by decide) k h.own
      · omega
    exact (heap_setCell_ne hgr).trans (hb.block g hgl fun hg2 => (k2 g hg).elim (fun k => hd.parts.apart 0 2 g (by decide) k hg2) fun k => by have := h2lt g hg2; omega)
  · rw [pput_other _ _ (by omega), pput_other _ _ (by omega), pput_other _ _ (by omega)]; exact h.own
  · show (w4.setCell ⟨r, 1, none⟩ v4).ownsRow 0 _ 1 v4 F.n _
    rw [hn, range_snoc]
    have e1 : (fptr (if S.fold.n + 1 = S.fold.n + 1 then b else P (S.fold.n + 1))) = fptr b := by rw [if_pos rfl]
    rw [e1, List.map_congr_left (g := fun i => fptr (P (i + 1))) (fun i hi => by
      have := List.mem_range.1 hi
      rw [if_neg (by omega)])]
    exact owns_same ho fun g hg => hnew g fun e => (hvb g hg).1.elim (fun k => hd.parts.apart 1 2 r (by decide) h.own (e ▸ k)) fun k => by omega
  · intro g hg'
    rw [pput_other _ _ (by omega), pput_same]; exact hg'
  · intro m h1 h2
    have h2 : m ≤ S.fold.n + 1 := by rw [← hn]; exact h2
    show RefAt _ _ (upd S.file F.n ⟨D, []⟩ m).D (upd S.file F.n ⟨D, []⟩ m).A _
    by_cases e : m = S.fold.n + 1
    · subst e
      rw [if_pos rfl, hn, upd_same, pput_same]
      exact ⟨⟨.slice none 0 0, (hnew b (by omega)).trans hbc, World.ownsRow_nil _ 0 _ 3, rfl, fun g hg => by cases hg⟩, trivial, hD, fun g hg => by cases hg; rw [hsz]; exact hbl⟩
    · rw [if_neg e, hn, upd_other _ _ e, pput_other _ _ (by omega), pput_other _ _ (by omega), pput_other _ _ (by omega)]
      exact (h.files m h1 (by omega)).same (hold (m + 3) (by omega) (by omega) (by omega)) hkA.size
  · intro k g hk
    rw [hsz]
    rcases hk with hk | hk
    · rcases cls k g hk with ⟨_, _, x⟩ | ⟨_, _, x, _⟩ | ⟨_, rfl⟩ | ⟨_, _, _, _, x⟩ <;> omega
    · exact hk.elim
  · intro k l g hkl hk hl
    rcases cls k g hk with ⟨rfl, x1, x2⟩ | ⟨rfl, x1, x2, x3⟩ | ⟨rfl, x1⟩ | ⟨x1, x2, x3, x4, x5⟩ <;> rcases cls l g hl with ⟨rfl, y1, y2⟩ | ⟨rfl, y1, y2, y3⟩ | ⟨rfl, y1⟩ | ⟨y1, y2, y3, y4, y5⟩ <;> first | omega | skip
    all_goals first
      | (rcases x1 with x1 | x1 <;> rcases y1 with y1 | y1 <;> first | omega | exact hd.parts.apart _ _ g (by decide) x1 y1 | (have := h2lt g y1; omega) | (have := h2lt g x1; omega))
      | (rcases x1 with x1 | x1 <;> first | omega | (have := h2lt g x1; omega) | exact hd.parts.apart _ l g (by omega) x1 y4)
      | (rcases y1 with y1 | y1 <;> first | omega | (have := h2lt g y1; omega) | exact hd.parts.apart k _ g (by omega) x4 y1)
      | exact hd.parts.apart k l g hkl x4 y4
  · rintro g ⟨k, hk⟩
    rcases cls k g hk with ⟨_, x, _⟩ | ⟨_, x, _⟩ | ⟨_, rfl⟩ | ⟨_, _, _, x, _⟩
    · exact x.imp (fun x => ⟨0, x⟩) id
    · exact x.imp (fun x => ⟨2, x⟩) fun x => by omega
    · exact .inr (by omega)
    · exact .inl ⟨k, x⟩

end Go.Proofs.YtmmoilmfpiclgaaGreat
namespace Go.Proofs.YtmmoilmfpiclgaaGreat
open Go.RowKit Go.Shelf
open Fld (FS Names FAct actsOn foundN foundB findT withT withoutT GoodN Rising mayB nam nameMax FolderS FolderIn ARow textsOf)

theorem light_new (q : Nat) : (DS.new q).Light 0 0 := ⟨Nat.le_refl _, fun _ => Nat.le_refl _, fun _ => Nat.le_refl _, Nat.le_refl _⟩
theorem rest_acts (T : Names) (l : List Nat) (f : Nat → FileS) {a : Nat} (h : ∀ n, (f n).A.length ≤ a) : ∀ k n, (restFile T l f k n).A.length ≤ a
  | 0, n => h n
  | k + 1, n => by
    show (upd (restFile T l f k) (nam T k).2 _ n).A.length ≤ a
    unfold upd
    split
    · exact Nat.zero_le _
    · exact rest_acts T l f h k n
theorem light_restart {S : DS} {a b : Nat} (h : S.Light a b) (l : List Nat) : (S.restart l).Light a b :=
  ⟨Nat.le_trans (Fld.weight_survive S.fold _) h.fold, rest_acts _ l S.file h.acts _, rest_heft _ l S.file h.heft _, h.steps⟩
theorem doing_room (S : DS) (g : DS → DS × Nat) (hg : ∀ T : DS, (g T).1.room = T.room) : (S.doing g).1.room = S.room := by
  unfold DS.doing
  split
  · rfl
  · exact hg _
theorem room_create (S : DS) (s : ByteArray) : (S.create s).1.room = S.room := doing_room S _ fun _ => rfl
theorem room_rename (S : DS) (s t : ByteArray) : (S.rename s t).1.room = S.room := doing_room S _ fun _ => rfl
theorem room_remove (S : DS) (s : ByteArray) : (S.remove s).1.room = S.room := doing_room S _ fun _ => rfl
theorem room_syncDir (S : DS) : S.syncDir.1.room = S.room := doing_room S _ fun _ => rfl
theorem change_room (S : DS) (s : ByteArray) (g : FileS → FileS × Nat) : (S.change s g).1.room = S.room := doing_room S _ fun T => by
  show (T.change0 s g).1.room = T.room
  unfold DS.change0
  split <;> rfl
theorem room_append (S : DS) (s : ByteArray) (x : List UInt8) : (S.append s x).1.room = S.room := change_room S s _
theorem room_truncate (S : DS) (s : ByteArray) (k : Int) : (S.truncate s k).1.room = S.room := change_room S s _
theorem room_sync (S : DS) (s : ByteArray) : (S.sync s).1.room = S.room := change_room S s _

/-- A disk's size, step by step: at most a acts, b bytes, q in all. -/
structure DS.Sized (S : DS) (a b q : Nat) : Prop where
  light : S.Light a b
  room : S.room = q
theorem DS.Sized.fit {S : DS} {a b q : Nat} (h : S.Sized a b q) (ha : a ≤ 900) (hb : b ≤ 90000) (hq : q ≤ 10000) : S.Fit := ⟨h.light.mono ha hb, by rw [h.room]; exact hq⟩
theorem sized_new (q : Nat) : (DS.new q).Sized 0 0 q := ⟨light_new q, rfl⟩
theorem sized_create {S : DS} {a b q : Nat} (h : S.Sized a b q) (s : ByteArray) : (S.create s).1.Sized (a + 3) b q := ⟨light_create h.light s, (room_create S s).trans h.room⟩
theorem sized_rename {S : DS} {a b q : Nat} (h : S.Sized a b q) (s t : ByteArray) : (S.rename s t).1.Sized (a + 3) b q := ⟨light_rename h.light s t, (room_rename S s t).trans h.room⟩
theorem sized_remove {S : DS} {a b q : Nat} (h : S.Sized a b q) (s : ByteArray) : (S.remove s).1.Sized (a + 3) b q := ⟨light_remove h.light s, (room_remove S s).trans h.room⟩
theorem sized_syncDir {S : DS} {a b q : Nat} (h : S.Sized a b q) : S.syncDir.1.Sized (a + 3) b q := ⟨light_syncDir h.light, (room_syncDir S).trans h.room⟩
theorem sized_append {S : DS} {a b q : Nat} (h : S.Sized a b q) (s : ByteArray) (x : List UInt8) : (S.append s x).1.Sized (a + 3) (b + q) q := ⟨light_append h.light s x (by have := h.room; omega), (room_append S s x).trans h.room⟩
theorem sized_truncate {S : DS} {a b q : Nat} (h : S.Sized a b q) (s : ByteArray) (k : Int) : (S.truncate s k).1.Sized (a + 3) b q := ⟨light_truncate h.light s k, (room_truncate S s k).trans h.room⟩
theorem sized_sync {S : DS} {a b q : Nat} (h : S.Sized a b q) (s : ByteArray) : (S.sync s).1.Sized (a + 3) b q := ⟨light_sync h.light s, (room_sync S s).trans h.room⟩
theorem sized_restart {S : DS} {a b q : Nat} (h : S.Sized a b q) (l : List Nat) : (S.restart l).Sized a b q := ⟨light_restart h.light l, h.room⟩
theorem DS.Sized.arm {S : DS} {a b q : Nat} (h : S.Sized a b q) (k : Int) : (S.arm k).Sized a b q := ⟨h.light.arm k, h.room⟩

theorem flock_new {w0 W : World} {n : Nat} {L : List (Nat × DS)} (h : Flock w0 W n L) (q : Nat) (hq : q ≤ 1000000000000) :
    Calls Tryz.prog 9 #[.int .i64 (q : Int)] W fun e w' => ∃ p, e = .returned (.pointer (some ⟨p, 0, none⟩)) ∧ Flock w0 w' n (L ++ [(p, DS.new q)]) := by
  refine (disk_new W q hq).mono ?_
  rintro e w' ⟨p, v, rfl, hd, hu, hb⟩
  exact ⟨p, rfl, h.add hd hu hb⟩

/-- Disks that a call made beside ours. -/
theorem Flock.join {w0 W W' : World} {n : Nat} {L : List (Nat × DS)} (h : Flock w0 W n L) {p : Nat} {S : DS} (k : Flock W W' 0 [(p, S)]) : Flock w0 W' n (L ++ [(p, S)]) := by
  have hb := k.below
  obtain ⟨vs, hv⟩ := k
  have h0 : 0 < vs.length := by rw [hv.len]; exact Nat.zero_lt_one
  obtain ⟨h1, h2⟩ := hv.disk 0 Nat.zero_lt_one h0
  exact h.add h1 h2 hb

theorem flock_restart {w0 W1 W : World} {n : Nat} {L : List (Nat × DS)} (h : Flock w0 W1 n L) (hb : Below W1.heap.size W1 W) (i : Nat) (hi : i < L.length) (hn : n ≤ i) (hf : L[i].2.Fit) {l : List Nat} {lv : Value} (hr : Row16 W lv l) (hll : l.length ≤ 1000000)
    (hlv : ∀ b o n c, lv = .slice (some ⟨b, o, none⟩) n c → (W1.heap.size ≤ b ∨ b < w0.heap.size) ∧ b < W.heap.size) (h16 : ∀ i, num l i ≤ 65535) :
    Calls Tryz.prog 14 #[.pointer (some ⟨L[i].1, 0, none⟩), lv] W fun e w' => e = .returned (.tuple #[]) ∧ Flock w0 w' n (L.set i (L[i].1, L[i].2.restart l)) := by
  obtain ⟨vs, hv⟩ := h
  have hi' : i < vs.length := by have := hv.len; omega
  have hv2 : FlockV w0 W n L vs := ⟨hv.len, fun j hj hj' => ⟨(hv.disk j hj hj').1.below hb, (hv.disk j hj hj').2⟩, hv.apart, Below.next hv.below hb⟩
  refine (disk_restart (hv2.disk i hi hi').1 hf.weight (fun m => Nat.le_trans (hf.1.acts m) (by decide)) (fun m => Nat.le_trans (hf.1.heft m) (by decide)) hr hll (fun b o m c e _ => ?_) h16).mono fun e w' ⟨he, hw⟩ => ⟨he, hv2.went i hi hi' hn hw⟩
  obtain ⟨h1, h2⟩ := hlv b o m c e
  refine ⟨fun hm => ?_, h2⟩
  have h3 := (hv.disk i hi hi').1.blocks b (.inl hm)
  have h4 := (hv.disk i hi hi').2 b (.inl hm)
  omega

/-- One text, laid behind them. -/
theorem flock_appendB {w0 W1 W : World} {n : Nat} {L : List (Nat × DS)} (h : Flock w0 W1 n L) (hb : Below W1.heap.size W1 W) (i : Nat) (hi : i < L.length) (hn : n ≤ i) (hf : L[i].2.Fit) (s x : ByteArray) (hs : s.size ≤ nameMax) (hx : x.size ≤ 140737488355328) {b : Nat} (hblk : W.heap[b]? = some (.cells #[.string x] 9 (0, 0))) :
    Calls Tryz.prog 13 #[.pointer (some ⟨L[i].1, 0, none⟩), .string s, .slice (some ⟨b, 0, none⟩) 1 1] W fun e w' => e = .returned (.int .i64 (((L[i].2.append s x.data.toList).2 : Nat) : Int)) ∧ Flock w0 w' n (L.set i (L[i].1, (L[i].2.append s x.data.toList).1)) :=
  flock_append (h.next hb) i hi hn hf s x hs ⟨_, _, _, rfl⟩ (Nat.le_trans hx (by decide)) fun W' hk => join_one hx (hk _ _ _ hblk (by decide))
theorem flock_append1 {w0 W : World} {n : Nat} {L : List (Nat × DS)} (h : Flock w0 W n L) (i : Nat) (hi : i < L.length) (hn : n ≤ i) (hf : L[i].2.Fit) (s x : ByteArray) (hs : s.size ≤ nameMax) (hx : x.size ≤ 140737488355328) :
    Calls Tryz.prog 13 #[.pointer (some ⟨L[i].1, 0, none⟩), .string s, .slice (some ⟨W.heap.size, 0, none⟩) 1 1] (W.alloc (.cells #[.string x] 9)) fun e w' => e = .returned (.int .i64 (((L[i].2.append s x.data.toList).2 : Nat) : Int)) ∧ Flock w0 w' n (L.set i (L[i].1, (L[i].2.append s x.data.toList).1)) :=
  flock_appendB h ((Below.refl _ W).alloc (Nat.le_refl _) _) i hi hn hf s x hs hx (heap_alloc_new W _)
end Go.Proofs.YtmmoilmfpiclgaaGreat
namespace Go.Proofs.YtmmoilmfpiclgaaGreat
open Go.RowKit Go.Shelf

def exC : DS := ((DS.new 10).create ⟨#[97]⟩).1
def exA : DS := (exC.append ⟨#[97]⟩ [120, 121]).1
def exY : DS := (exA.sync ⟨#[97]⟩).1
def exN : DS := exY.syncDir.1
def exE : DS := (exN.append ⟨#[97]⟩ [122]).1
theorem sized_exC : exC.Sized 3 0 10 := sized_create (sized_new 10) _
theorem sized_exA : exA.Sized 6 10 10 := sized_append sized_exC _ _
theorem sized_exY : exY.Sized 9 10 10 := sized_sync sized_exA _
theorem sized_exN : exN.Sized 12 10 10 := sized_syncDir sized_exY
theorem sized_exE : exE.Sized 15 20 10 := sized_append sized_exN _ _

theorem one_get (x : Nat × DS) (h : 0 < [x].length) : [x][0]'h = x := rfl
set_option maxHeartbeats 2000000 in
set_option maxRecDepth 100000 in
theorem example_any (w : World) : Calls Tryz.prog 74 #[] w fun e w' => ∃ p, e = .returned (.pointer (some ⟨p, 0, none⟩)) ∧ Flock w w' 0 [(p, exE)] := by
  have QN := Lib.hid (show Calls Tryz.prog 9 #[.int .i64 10] w fun e w' => ∃ p, e = .returned (.pointer (some ⟨p, 0, none⟩)) ∧ Flock w w' 0 [(p, DS.new 10)] from flock_new (flock_nil w) 10 (by decide))
  have QC := Lib.hid (show ∀ W p, Flock w W 0 [(p, DS.new 10)] → Calls Tryz.prog 12 #[.pointer (some ⟨p, 0, none⟩), .string ⟨#[97]⟩] W fun e w' => (∃ k : Nat, e = .returned (.int .i64 (k : Int))) ∧ Flock w w' 0 [(p, exC)] from fun W p h =>
    (flock_create h 0 Nat.zero_lt_one (Nat.le_refl _) ((sized_new 10).fit (by decide) (by decide) (by decide)) ⟨#[97]⟩ (by decide)).mono fun e w' ⟨he, hw⟩ => ⟨⟨_, he⟩, hw⟩)
  have QA := Lib.hid (show ∀ W p, Flock w W 0 [(p, exC)] → Calls Tryz.prog 13 #[.pointer (some ⟨p, 0, none⟩), .string ⟨#[97]⟩, .slice (some ⟨W.heap.size, 0, none⟩) 1 1] (W.alloc (.cells #[.string ⟨#[120, 121]⟩] 9)) fun e w' => (∃ k : Nat, e = .returned (.int .i64 (k : Int))) ∧ Flock w w' 0 [(p, exA)] from fun W p h =>
    (flock_append1 h 0 Nat.zero_lt_one (Nat.le_refl _) (sized_exC.fit (by decide) (by decide) (by decide)) ⟨#[97]⟩ ⟨#[120, 121]⟩ (by decide) (by decide)).mono fun e w' ⟨he, hw⟩ => ⟨⟨_, he⟩, hw⟩)
  have QY := Lib.hid (show ∀ W p, Flock w W 0 [(p, exA)] → Calls Tryz.prog 22 #[.pointer (some ⟨p, 0, none⟩), .string ⟨#[97]⟩] W fun e w' => (∃ k : Nat, e = .returned (.int .i64 (k : Int))) ∧ Flock w w' 0 [(p, exY)] from fun W p h =>
    (flock_sync h 0 Nat.zero_lt_one (Nat.le_refl _) (sized_exA.fit (by decide) (by decide) (by decide)) ⟨#[97]⟩ (by decide)).mono fun e w' ⟨he, hw⟩ => ⟨⟨_, he⟩, hw⟩)
  have QD := Lib.hid (show ∀ W p, Flock w W 0 [(p, exY)] → Calls Tryz.prog 24 #[.pointer (some ⟨p, 0, none⟩)] W fun e w' => (∃ k : Nat, e = .returned (.int .i64 (k : Int))) ∧ Flock w w' 0 [(p, exN)] from fun W p h =>
    (flock_syncDir h 0 Nat.zero_lt_one (Nat.le_refl _) (sized_exY.fit (by decide) (by decide) (by decide))).mono fun e w' ⟨he, hw⟩ => ⟨⟨_, he⟩, hw⟩)
  have QE := Lib.hid (show ∀ W p, Flock w W 0 [(p, exN)] → Calls Tryz.prog 13 #[.pointer (some ⟨p, 0, none⟩), .string ⟨#[97]⟩, .slice (some ⟨W.heap.size, 0, none⟩) 1 1] (W.alloc (.cells #[.string ⟨#[122]⟩] 9)) fun e w' => (∃ k : Nat, e = .returned (.int .i64 (k : Int))) ∧ Flock w w' 0 [(p, exE)] from fun W p h =>
    (flock_append1 h 0 Nat.zero_lt_one (Nat.le_refl _) (sized_exN.fit (by decide) (by decide) (by decide)) ⟨#[97]⟩ ⟨#[122]⟩ (by decide) (by decide)).mono fun e w' ⟨he, hw⟩ => ⟨⟨_, he⟩, hw⟩)
  go_enter Tryz.func74, Tryz.ntmps74
  go_wp2_with (first
    | (go_at_call 9; go_must (with_reducible refine QN.out.mono ?_); rintro e w1 ⟨p, rfl, hq⟩; have H1 := Lib.hid hq; clear hq)
    | (go_at_call 12; go_must (with_reducible refine (QC.out _ _ H1.out).mono ?_); rintro e w2 ⟨⟨k2, rfl⟩, hq⟩; have H2 := Lib.hid hq; clear hq)
    | (go_at_call 22; go_must (with_reducible refine (QY.out _ _ H3.out).mono ?_); rintro e w4 ⟨⟨k4, rfl⟩, hq⟩; have H4 := Lib.hid hq; clear hq)
    | (go_at_call 24; go_must (with_reducible refine (QD.out _ _ H4.out).mono ?_); rintro e w5 ⟨⟨k5, rfl⟩, hq⟩; have H5 := Lib.hid hq; clear hq)
    | (go_at_call 13; first
      | ((with_reducible refine (QE.out _ _ H5.out).mono ?_); rintro e w6 ⟨⟨k6, rfl⟩, hq⟩; have H6 := Lib.hid hq; clear hq)
      | ((with_reducible refine (QA.out _ _ H2.out).mono ?_); rintro e w3 ⟨⟨k3, rfl⟩, hq⟩; have H3 := Lib.hid hq; clear hq)))
  go_ret
  exact ⟨_, rfl, H6.out⟩
end Go.Proofs.YtmmoilmfpiclgaaGreat
namespace Go.Proofs.YtmmoilmfpiclgaaGreat
open Go.RowKit Go.Shelf

def wd0 : DS := DS.new 10
def wd1 : DS := (wd0.create ⟨#[97]⟩).1
def wd2 : DS := (wd1.append ⟨#[97]⟩ [104, 101, 108, 108, 111]).1
def wd3 : DS := (wd2.append ⟨#[97]⟩ [119, 111, 114, 108, 100, 33]).1
def wd4 : DS := wd3.restart []
def exR0 : DS := exE.restart [0]
def exR1 : DS := exE.restart [0, 1]
def wg0 : DS := wd0.arm 2
def wg1 : DS := (wg0.create ⟨#[98]⟩).1
def wg2 : DS := (wg1.create ⟨#[99]⟩).1
def wg3 : DS := (wg2.create ⟨#[100]⟩).1
theorem sized_wd0 : wd0.Sized 0 0 10 := sized_new 10
theorem sized_wd1 : wd1.Sized 3 0 10 := sized_create sized_wd0 _
theorem sized_wd2 : wd2.Sized 6 10 10 := sized_append sized_wd1 _ _
theorem sized_wd3 : wd3.Sized 9 20 10 := sized_append sized_wd2 _ _
theorem sized_wd4 : wd4.Sized 9 20 10 := sized_restart sized_wd3 _
theorem sized_exR0 : exR0.Sized 15 20 10 := sized_restart sized_exE _
theorem sized_exR1 : exR1.Sized 15 20 10 := sized_restart sized_exE _
theorem sized_wg0 : wg0.Sized 0 0 10 := sized_wd0.arm 2
theorem sized_wg1 : wg1.Sized 3 0 10 := sized_create sized_wg0 _
theorem sized_wg2 : wg2.Sized 6 0 10 := sized_create sized_wg1 _
theorem sized_wg3 : wg3.Sized 9 0 10 := sized_create sized_wg2 _

theorem wd1_e : (wd0.create ⟨#[97]⟩).2 = 0 := by decide +kernel
theorem wd2_e : (wd1.append ⟨#[97]⟩ [104, 101, 108, 108, 111]).2 = 0 := by decide +kernel
theorem wd3_e : (wd2.append ⟨#[97]⟩ [119, 111, 114, 108, 100, 33]).2 = 10 := by decide +kernel
theorem wd3_files : wd3.files = [([97], [104, 101, 108, 108, 111, 119, 111, 114, 108, 100])] := by decide +kernel
theorem wd4_listed : wd4.listed = [] := by decide +kernel
theorem exR0_files : exR0.files = [([97], [120, 121])] := by decide +kernel
theorem exR1_files : exR1.files = [([97], [120, 121, 122])] := by decide +kernel
theorem wg1_e : (wg0.create ⟨#[98]⟩).2 = 0 := by decide +kernel
theorem wg2_e : (wg1.create ⟨#[99]⟩).2 = 13 := by decide +kernel
theorem wg3_e : (wg2.create ⟨#[100]⟩).2 = 13 := by decide +kernel
theorem wg3_down : wg3.down = true := by decide +kernel
end Go.Proofs.YtmmoilmfpiclgaaGreat
namespace Go.Proofs.YtmmoilmfpiclgaaGreat
open Go.RowKit Go.Shelf
open Fld (FS Names FAct actsOn foundN foundB findT withT withoutT GoodN Rising mayB nam nameMax FolderS FolderIn ARow textsOf)

theorem strs_two (a b : ByteArray) (W : World) : Strs (W.alloc (.cells #[.string a, .string b] 9)) (.slice (some ⟨W.heap.size, 0, none⟩) 2 2) [a, b] := by
  refine ⟨_, _, rfl, fun i hi => ⟨_, _, rfl, ?_⟩⟩
  rw [World.cell?_alloc_at (hn := rfl)]
  have : i = 0 ∨ i = 1 := by simp at hi; omega
  rcases this with rfl | rfl <;> rfl

theorem has_one {w0 W : World} {n : Nat} {L : List (Nat × DS)} (h : Flock w0 W n L) (i : Nat) (hi : i < L.length) (hf : L[i].2.Fit) (a b : ByteArray) (hl : L[i].2.files = [(a.data.toList, b.data.toList)]) :
    Calls Tryz.prog 35 #[.pointer (some ⟨L[i].1, 0, none⟩), .slice (some ⟨W.heap.size, 0, none⟩) 2 2] (W.alloc (.cells #[.string a, .string b] 9)) fun e w' => e = .returned (.bool true) ∧ Flock w0 w' n L := by
  have hb : Below W.heap.size W (W.alloc (.cells #[.string a, .string b] 9)) := (Below.refl _ W).alloc (Nat.le_refl _) _
  refine (h.next hb).read i hi fun v hv => ?_
  refine (has_true hv hf.weight (strs_two a b W) (by rw [hl]; rfl) (by rw [hl]; simp) (fun k hk => ?_)).mono fun e w' ⟨he, hw⟩ => ⟨he, (h.next hb).next hw⟩
  rw [hl] at hk ⊢
  obtain rfl : k = 0 := by simp at hk; omega
  exact ⟨rfl, rfl⟩

theorem row16_one (k : Nat) (hk : k ≤ 65535) (W : World) : Row16 (W.alloc (.cells #[.int .u16 (k : Int)] 57)) (.slice (some ⟨W.heap.size, 0, none⟩) 1 1) [k] := by
  refine ⟨_, _, rfl, fun i hi => ⟨_, _, rfl, ?_, ?_⟩⟩
  · rw [World.cell?_alloc_at (hn := rfl)]
    obtain rfl : i = 0 := by simp at hi; omega
    rfl
  · obtain rfl : i = 0 := by simp at hi; omega
    exact hk
theorem row16_two (k m : Nat) (hk : k ≤ 65535) (hm : m ≤ 65535) (W : World) : Row16 (W.alloc (.cells #[.int .u16 (k : Int), .int .u16 (m : Int)] 57)) (.slice (some ⟨W.heap.size, 0, none⟩) 2 2) [k, m] := by
  refine ⟨_, _, rfl, fun i hi => ⟨_, _, rfl, ?_⟩⟩
  rw [World.cell?_alloc_at (hn := rfl)]
  have : i = 0 ∨ i = 1 := by simp at hi; omega
  rcases this with rfl | rfl
  · exact ⟨rfl, hk⟩
  · exact ⟨rfl, hm⟩
theorem num_small {l : List Nat} (h : ∀ x ∈ l, x ≤ 65535) (i : Nat) : num l i ≤ 65535 := by
  unfold num
  by_cases hi : i < l.length
  · simp only [List.getD, List.getElem?_eq_getElem hi, Option.getD_some]
    exact h _ (List.getElem_mem hi)
  · simp [List.getD, (by omega : l.length ≤ i)]

/-- A restart by a row that has just been laid. -/
theorem flock_restart1 {w0 W : World} {n : Nat} {L : List (Nat × DS)} (h : Flock w0 W n L) (i : Nat) (hi : i < L.length) (hn : n ≤ i) (hf : L[i].2.Fit) {l : List Nat} {o : Obj} {m c : Nat} (hr : Row16 (W.alloc o) (.slice (some ⟨W.heap.size, 0, none⟩) m c) l) (hll : l.length ≤ 1000000) (h16 : ∀ x ∈ l, x ≤ 65535) :
    Calls Tryz.prog 14 #[.pointer (some ⟨L[i].1, 0, none⟩), .slice (some ⟨W.heap.size, 0, none⟩) m c] (W.alloc o) fun e w' => e = .returned (.tuple #[]) ∧ Flock w0 w' n (L.set i (L[i].1, L[i].2.restart l)) :=
  flock_restart h ((Below.refl _ W).alloc (Nat.le_refl _) _) i hi hn hf hr hll (fun b o' n' c' e => by cases e; exact ⟨.inl (Nat.le_refl _), (Array.getElem?_eq_some_iff.1 (heap_alloc_new W o)).1⟩) (num_small h16)
theorem flock_restart0 {w0 W : World} {n : Nat} {L : List (Nat × DS)} (h : Flock w0 W n L) (i : Nat) (hi : i < L.length) (hn : n ≤ i) (hf : L[i].2.Fit) :
    Calls Tryz.prog 14 #[.pointer (some ⟨L[i].1, 0, none⟩), .slice none 0 0] W fun e w' => e = .returned (.tuple #[]) ∧ Flock w0 w' n (L.set i (L[i].1, L[i].2.restart [])) :=
  flock_restart h (Below.refl _ W) i hi hn hf ⟨_, _, rfl, fun i hi => absurd hi (Nat.not_lt_zero _)⟩ (Nat.zero_le _) (fun b o' n' c' e => by cases e) (fun i => by simp [num])

set_option maxHeartbeats 4000000 in
set_option maxRecDepth 100000 in
theorem works_any (w : World) : Calls Tryz.prog 17 #[] w fun e w' => e = .returned (.bool true) ∧ Below w.heap.size w w' := by
  have QN := Lib.hid (show Calls Tryz.prog 9 #[.int .i64 10] w fun e w' => ∃ p, e = .returned (.pointer (some ⟨p, 0, none⟩)) ∧ Flock w w' 0 [(p, wd0)] from flock_new (flock_nil w) 10 (by decide))
  have QC := Lib.hid (show ∀ W p, Flock w W 0 [(p, wd0)] → Calls Tryz.prog 12 #[.pointer (some ⟨p, 0, none⟩), .string ⟨#[97]⟩] W fun e w' => e = .returned (.int .i64 0) ∧ Flock w w' 0 [(p, wd1)] from fun W p h =>
    (flock_create h 0 Nat.zero_lt_one (Nat.le_refl _) (sized_wd0.fit (by decide) (by decide) (by decide)) ⟨#[97]⟩ (by decide)).mono fun e w' ⟨he, hw⟩ => ⟨by rw [he]; exact congrArg (fun k : Nat => Ending.returned (.int .i64 (k : Int))) wd1_e, hw⟩)
  have QA := Lib.hid (show ∀ W p, Flock w W 0 [(p, wd1)] → Calls Tryz.prog 13 #[.pointer (some ⟨p, 0, none⟩), .string ⟨#[97]⟩, .slice (some ⟨W.heap.size, 0, none⟩) 1 1] (W.alloc (.cells #[.string ⟨#[104, 101, 108, 108, 111]⟩] 9)) fun e w' => e = .returned (.int .i64 0) ∧ Flock w w' 0 [(p, wd2)] from fun W p h =>
    (flock_append1 h 0 Nat.zero_lt_one (Nat.le_refl _) (sized_wd1.fit (by decide) (by decide) (by decide)) ⟨#[97]⟩ ⟨#[104, 101, 108, 108, 111]⟩ (by decide) (by decide)).mono fun e w' ⟨he, hw⟩ => ⟨by rw [he]; exact congrArg (fun k : Nat => Ending.returned (.int .i64 (k : Int))) wd2_e, hw⟩)
  have QB := Lib.hid (show ∀ W p, Flock w W 0 [(p, wd2)] → Calls Tryz.prog 13 #[.pointer (some ⟨p, 0, none⟩), .string ⟨#[97]⟩, .slice (some ⟨W.heap.size, 0, none⟩) 1 1] (W.alloc (.cells #[.string ⟨#[119, 111, 114, 108, 100, 33]⟩] 9)) fun e w' => e = .returned (.int .i64 10) ∧ Flock w w' 0 [(p, wd3)] from fun W p h =>
    (flock_append1 h 0 Nat.zero_lt_one (Nat.le_refl _) (sized_wd2.fit (by decide) (by decide) (by decide)) ⟨#[97]⟩ ⟨#[119, 111, 114, 108, 100, 33]⟩ (by decide) (by decide)).mono fun e w' ⟨he, hw⟩ => ⟨by rw [he]; exact congrArg (fun k : Nat => Ending.returned (.int .i64 (k : Int))) wd3_e, hw⟩)
  have QH := Lib.hid (show ∀ W p, Flock w W 0 [(p, wd3)] → Calls Tryz.prog 35 #[.pointer (some ⟨p, 0, none⟩), .slice (some ⟨W.heap.size, 0, none⟩) 2 2] (W.alloc (.cells #[.string ⟨#[97]⟩, .string ⟨#[104, 101, 108, 108, 111, 119, 111, 114, 108, 100]⟩] 9)) fun e w' => e = .returned (.bool true) ∧ Flock w w' 0 [(p, wd3)] from fun W p h =>
    has_one h 0 Nat.zero_lt_one (sized_wd3.fit (by decide) (by decide) (by decide)) ⟨#[97]⟩ ⟨#[104, 101, 108, 108, 111, 119, 111, 114, 108, 100]⟩ wd3_files)
  have QR := Lib.hid (show ∀ W p, Flock w W 0 [(p, wd3)] → Calls Tryz.prog 14 #[.pointer (some ⟨p, 0, none⟩), .slice none 0 0] W fun e w' => e = .returned (.tuple #[]) ∧ Flock w w' 0 [(p, wd4)] from fun W p h =>
    flock_restart0 h 0 Nat.zero_lt_one (Nat.le_refl _) (sized_wd3.fit (by decide) (by decide) (by decide)))
  have QE := Lib.hid (show ∀ W p, Flock w W 0 [(p, wd4)] → Calls Tryz.prog 74 #[] W fun e w' => ∃ q, e = .returned (.pointer (some ⟨q, 0, none⟩)) ∧ Flock w w' 0 [(p, wd4), (q, exE)] from fun W p h =>
    (example_any W).mono fun e w' ⟨q, he, hw⟩ => ⟨q, he, h.join hw⟩)
  have QF := Lib.hid (show ∀ W p q, Flock w W 0 [(p, wd4), (q, exE)] → Calls Tryz.prog 74 #[] W fun e w' => ∃ r, e = .returned (.pointer (some ⟨r, 0, none⟩)) ∧ Flock w w' 0 [(p, wd4), (q, exE), (r, exE)] from fun W p q h =>
    (example_any W).mono fun e w' ⟨r, he, hw⟩ => ⟨r, he, h.join hw⟩)
  have QR0 := Lib.hid (show ∀ W p q r, Flock w W 0 [(p, wd4), (q, exE), (r, exE)] → Calls Tryz.prog 14 #[.pointer (some ⟨q, 0, none⟩), .slice (some ⟨W.heap.size, 0, none⟩) 1 1] (W.alloc (.cells #[.int .u16 0] 57)) fun e w' => e = .returned (.tuple #[]) ∧ Flock w w' 0 [(p, wd4), (q, exR0), (r, exE)] from fun W p q r h =>
    flock_restart1 h 1 (by simp) (Nat.zero_le _) (sized_exE.fit (by decide) (by decide) (by decide)) (row16_one 0 (by decide) W) (by decide) (by decide))
  have QR1 := Lib.hid (show ∀ W p q r, Flock w W 0 [(p, wd4), (q, exR0), (r, exE)] → Calls Tryz.prog 14 #[.pointer (some ⟨r, 0, none⟩), .slice (some ⟨W.heap.size, 0, none⟩) 2 2] (W.alloc (.cells #[.int .u16 0, .int .u16 1] 57)) fun e w' => e = .returned (.tuple #[]) ∧ Flock w w' 0 [(p, wd4), (q, exR0), (r, exR1)] from fun W p q r h =>
    flock_restart1 h 2 (by simp) (Nat.zero_le _) (sized_exE.fit (by decide) (by decide) (by decide)) (row16_two 0 1 (by decide) (by decide) W) (by decide) (by decide))
  have QG := Lib.hid (show ∀ W p q r, Flock w W 0 [(p, wd4), (q, exR0), (r, exR1)] → Calls Tryz.prog 9 #[.int .i64 10] W fun e w' => ∃ s, e = .returned (.pointer (some ⟨s, 0, none⟩)) ∧ Flock w w' 0 [(p, wd4), (q, exR0), (r, exR1), (s, wd0)] from fun W p q r h => flock_new h 10 (by decide))
  have QK := Lib.hid (show ∀ W p q r s, Flock w W 0 [(p, wd4), (q, exR0), (r, exR1), (s, wd0)] → Calls Tryz.prog 31 #[.pointer (some ⟨s, 0, none⟩), .int .i64 2] W fun e w' => e = .returned (.tuple #[]) ∧ Flock w w' 0 [(p, wd4), (q, exR0), (r, exR1), (s, wg0)] from fun W p q r s h =>
    flock_arm h 3 (by simp) (Nat.zero_le _) 2 (by decide))
  have QC1 := Lib.hid (show ∀ W p q r s, Flock w W 0 [(p, wd4), (q, exR0), (r, exR1), (s, wg0)] → Calls Tryz.prog 12 #[.pointer (some ⟨s, 0, none⟩), .string ⟨#[98]⟩] W fun e w' => e = .returned (.int .i64 0) ∧ Flock w w' 0 [(p, wd4), (q, exR0), (r, exR1), (s, wg1)] from fun W p q r s h =>
    (flock_create h 3 (by simp) (Nat.zero_le _) (sized_wg0.fit (by decide) (by decide) (by decide)) ⟨#[98]⟩ (by decide)).mono fun e w' ⟨he, hw⟩ => ⟨by rw [he]; exact congrArg (fun k : Nat => Ending.returned (.int .i64 (k : Int))) wg1_e, hw⟩)
  have QC2 := Lib.hid (show ∀ W p q r s, Flock w W 0 [(p, wd4), (q, exR0), (r, exR1), (s, wg1)] → Calls Tryz.prog 12 #[.pointer (some ⟨s, 0, none⟩), .string ⟨#[99]⟩] W fun e w' => e = .returned (.int .i64 13) ∧ Flock w w' 0 [(p, wd4), (q, exR0), (r, exR1), (s, wg2)] from fun W p q r s h =>
    (flock_create h 3 (by simp) (Nat.zero_le _) (sized_wg1.fit (by decide) (by decide) (by decide)) ⟨#[99]⟩ (by decide)).mono fun e w' ⟨he, hw⟩ => ⟨by rw [he]; exact congrArg (fun k : Nat => Ending.returned (.int .i64 (k : Int))) wg2_e, hw⟩)
  have QC3 := Lib.hid (show ∀ W p q r s, Flock w W 0 [(p, wd4), (q, exR0), (r, exR1), (s, wg2)] → Calls Tryz.prog 12 #[.pointer (some ⟨s, 0, none⟩), .string ⟨#[100]⟩] W fun e w' => e = .returned (.int .i64 13) ∧ Flock w w' 0 [(p, wd4), (q, exR0), (r, exR1), (s, wg3)] from fun W p q r s h =>
    (flock_create h 3 (by simp) (Nat.zero_le _) (sized_wg2.fit (by decide) (by decide) (by decide)) ⟨#[100]⟩ (by decide)).mono fun e w' ⟨he, hw⟩ => ⟨by rw [he]; exact congrArg (fun k : Nat => Ending.returned (.int .i64 (k : Int))) wg3_e, hw⟩)
  have QL := Lib.hid (show ∀ W p q r s, Flock w W 0 [(p, wd4), (q, exR0), (r, exR1), (s, wg3)] → Calls Tryz.prog 33 #[.pointer (some ⟨p, 0, none⟩)] W fun e w' => (∃ ad c, e = .returned (.slice ad 0 c)) ∧ Flock w w' 0 [(p, wd4), (q, exR0), (r, exR1), (s, wg3)] from fun W p q r s h =>
    h.read 0 (by simp) fun v hv => (disk_list hv (Nat.le_trans (sized_wd4.fit (by decide) (by decide) (by decide)).weight (by decide))).mono fun e w' ⟨x, he, hx, hb⟩ => ⟨by
      have hx' : w'.ownsRow W.heap.size 9 1 x wd4.listed.length (wd4.listed.map Value.string) := hx
      rw [wd4_listed] at hx'
      obtain ⟨ad, c, e1⟩ := ownsSlice hx'
      exact ⟨ad, c, he.trans (congrArg _ e1)⟩, h.next hb⟩)
  have QHE := Lib.hid (show ∀ W p q r s, Flock w W 0 [(p, wd4), (q, exR0), (r, exR1), (s, wg3)] → Calls Tryz.prog 35 #[.pointer (some ⟨q, 0, none⟩), .slice (some ⟨W.heap.size, 0, none⟩) 2 2] (W.alloc (.cells #[.string ⟨#[97]⟩, .string ⟨#[120, 121]⟩] 9)) fun e w' => e = .returned (.bool true) ∧ Flock w w' 0 [(p, wd4), (q, exR0), (r, exR1), (s, wg3)] from fun W p q r s h =>
    has_one h 1 (by simp) (sized_exR0.fit (by decide) (by decide) (by decide)) ⟨#[97]⟩ ⟨#[120, 121]⟩ exR0_files)
  have QHF := Lib.hid (show ∀ W p q r s, Flock w W 0 [(p, wd4), (q, exR0), (r, exR1), (s, wg3)] → Calls Tryz.prog 35 #[.pointer (some ⟨r, 0, none⟩), .slice (some ⟨W.heap.size, 0, none⟩) 2 2] (W.alloc (.cells #[.string ⟨#[97]⟩, .string ⟨#[120, 121, 122]⟩] 9)) fun e w' => e = .returned (.bool true) ∧ Flock w w' 0 [(p, wd4), (q, exR0), (r, exR1), (s, wg3)] from fun W p q r s h =>
    has_one h 2 (by simp) (sized_exR1.fit (by decide) (by decide) (by decide)) ⟨#[97]⟩ ⟨#[120, 121, 122]⟩ exR1_files)
  have QD := Lib.hid (show ∀ W p q r s, Flock w W 0 [(p, wd4), (q, exR0), (r, exR1), (s, wg3)] → Calls Tryz.prog 32 #[.pointer (some ⟨s, 0, none⟩)] W fun e w' => e = .returned (.bool true) ∧ W = w' from fun W p q r s h =>
    h.read 3 (by simp) fun v hv => (down_any hv).mono fun e w' ⟨he, hw⟩ => ⟨by rw [he]; exact congrArg (fun k : Bool => Ending.returned (.bool k)) wg3_down, hw⟩)
  go_enter Tryz.func17, Tryz.ntmps17
  go_wp2_with (first
    | (go_at_call 9; first
      | ((with_reducible refine (QG.out _ _ _ _ F7.out).mono ?_); rintro e w8 ⟨s, rfl, hq⟩; have G0 := Lib.hid hq; clear hq)
      | ((with_reducible refine QN.out.mono ?_); rintro e w1 ⟨p, rfl, hq⟩; have D0 := Lib.hid hq; clear hq))
    | (go_at_call 12; first
      | ((with_reducible refine (QC3.out _ _ _ _ _ G3.out).mono ?_); rintro e w12 ⟨rfl, hq⟩; have G4 := Lib.hid hq; clear hq)
      | ((with_reducible refine (QC2.out _ _ _ _ _ G2.out).mono ?_); rintro e w11 ⟨rfl, hq⟩; have G3 := Lib.hid hq; clear hq)
      | ((with_reducible refine (QC1.out _ _ _ _ _ G1.out).mono ?_); rintro e w10 ⟨rfl, hq⟩; have G2 := Lib.hid hq; clear hq)
      | ((with_reducible refine (QC.out _ _ D0.out).mono ?_); rintro e w2 ⟨rfl, hq⟩; have D1 := Lib.hid hq; clear hq))
    | (go_at_call 13; first
      | ((with_reducible refine (QB.out _ _ D2.out).mono ?_); rintro e w4 ⟨rfl, hq⟩; have D3 := Lib.hid hq; clear hq)
      | ((with_reducible refine (QA.out _ _ D1.out).mono ?_); rintro e w3 ⟨rfl, hq⟩; have D2 := Lib.hid hq; clear hq))
    | (go_at_call 14; first
      | ((with_reducible refine (QR1.out _ _ _ _ F6.out).mono ?_); rintro e w7 ⟨rfl, hq⟩; have F7 := Lib.hid hq; clear hq)
      | ((with_reducible refine (QR0.out _ _ _ _ F5.out).mono ?_); rintro e w6 ⟨rfl, hq⟩; have F6 := Lib.hid hq; clear hq)
      | ((with_reducible refine (QR.out _ _ D4.out).mono ?_); rintro e w5 ⟨rfl, hq⟩; have D5 := Lib.hid hq; clear hq))
    | (go_at_call 74; first
      | ((with_reducible refine (QF.out _ _ _ E4.out).mono ?_); rintro e wf ⟨r, rfl, hq⟩; have F5 := Lib.hid hq; clear hq)
      | ((with_reducible refine (QE.out _ _ D5.out).mono ?_); rintro e we ⟨q, rfl, hq⟩; have E4 := Lib.hid hq; clear hq))
    | (go_at_call 31; go_must (with_reducible refine (QK.out _ _ _ _ _ G0.out).mono ?_); rintro e w9 ⟨rfl, hq⟩; have G1 := Lib.hid hq; clear hq)
    | (go_at_call 35; first
      | ((with_reducible refine (QHF.out _ _ _ _ _ H2.out).mono ?_); rintro e wh3 ⟨rfl, hq⟩; have H3 := Lib.hid hq; clear hq)
      | ((with_reducible refine (QHE.out _ _ _ _ _ H1.out).mono ?_); rintro e wh2 ⟨rfl, hq⟩; have H2 := Lib.hid hq; clear hq)
      | ((with_reducible refine (QH.out _ _ D3.out).mono ?_); rintro e wh ⟨rfl, hq⟩; have D4 := Lib.hid hq; clear hq))
    | (go_at_call 33; go_must (with_reducible refine (QL.out _ _ _ _ _ G4.out).mono ?_); rintro e wl ⟨⟨al, cl, rfl⟩, hq⟩; have H1 := Lib.hid hq; clear hq)
    | (go_at_call 32; go_must (with_reducible refine (QD.out _ _ _ _ _ H3.out).mono ?_); rintro e wz ⟨rfl, rfl⟩))
  go_ret
  exact ⟨rfl, H3.out.below⟩
end Go.Proofs.YtmmoilmfpiclgaaGreat
namespace Go.Proofs.YtmmoilmfpiclgaaGreat
open Go.RowKit Go.Shelf
open Fld (FS Names FAct actsOn foundN foundB findT withT withoutT GoodN Rising mayB nam nameMax RefS)

/-- What a new one stands in is new. -/
def FreshD (w : World) (r : Nat) (S : DS) (w' : World) : Prop := ∃ M, RefD w' r S M ∧ (∀ g, All M g → w.heap.size ≤ g) ∧ Below w.heap.size w w'
def newM (J : Nat → Prop) (r : Nat) : Nat → Nat → Prop := fun k g => match k with | 0 => J g | 1 => g = r | _ => False
theorem refD_new {w w1 w' : World} {q r n : Nat} {J : Nat → Prop} (hq : RefS w1 q FS.new J) (hJ : ∀ g, J g → w.heap.size ≤ g) (hb : Below w.heap.size w w1) (hr : w1.heap.size ≤ r) (hb' : Below w1.heap.size w1 w') (hc : w'.heap[r]? = some (.cells (refC q (.slice none 0 0) (DS.new n)) 84 (0, 0))) (hn : n ≤ 1000000000000) : FreshD w r (DS.new n) w' := by
  have hlt := (Array.getElem?_eq_some_iff.1 hc).1
  have hm : ∀ g, J g → g < w1.heap.size := hq.mem
  have hs := hb.size
  have hs' := hb'.size
  refine ⟨newM J r, ⟨⟨q, _, fun _ => 0, hc, hq.below hb', rfl, World.ownsRow_nil _ 0 _ 1, (fun g hg => by cases hg), fun m h1 h2 => ?_, fun _ => rfl⟩, Fld.good_new, ⟨?_, ?_, fun k l g h => h.elim⟩, hn, Nat.zero_le _⟩, ?_, Below.next hb hb'⟩
  · have : (DS.new n).fold.n = 0 := rfl
    omega
  · intro k g hg
    rcases hg with hg | hg
    · rcases k with _ | _ | k
      · have := hm g hg; omega
      · cases hg; exact hlt
      · exact hg.elim
    · exact hg.elim
  · intro k l g hkl h1 h2
    rcases k with _ | _ | k <;> rcases l with _ | _ | l <;> first | exact h1.elim | exact h2.elim | exact hkl rfl | skip
    · have := hm g h1; cases h2; omega
    · have := hm g h2; cases h1; omega
  · rintro g ⟨k, hk⟩
    rcases k with _ | _ | k
    · exact hJ g hk
    · cases hk; omega
    · exact hk.elim

set_option maxHeartbeats 2000000 in
set_option maxRecDepth 100000 in
theorem refNewD_any (w : World) (n : Nat) (hn : n ≤ 1000000000000) :
    Calls Tryz.prog 10 #[.int .i64 (n : Int)] w fun e w' => ∃ r, e = .returned (.pointer (some ⟨r, 0, none⟩)) ∧ FreshD w r (DS.new n) w' := by
  have QN := Lib.hid (Fld.refS_new w)
  have h0 : decide ((n : Int) < 0) = false := decide_eq_false (by omega)
  go_enter Tryz.func10, Tryz.ntmps10
  go_wp2_with (go_at_call 44; go_must (with_reducible refine QN.out.mono ?_); rintro e w1 ⟨q, J, rfl, k1, k2, k3⟩; have K1 := Lib.hid k1; have K2 := Lib.hid k2; have K3 := Lib.hid k3; clear k1 k2 k3)
  go_ret
  refine ⟨_, rfl, refD_new K1.out K2.out K3.out (Nat.le_refl _) ((Below.refl _ _).alloc (Nat.le_refl _) _) (heap_alloc_new _ _) hn⟩
set_option maxHeartbeats 2000000 in
set_option maxRecDepth 100000 in
theorem refNewD_none (w : World) (n : Int) (hn : n < 0) :
    Calls Tryz.prog 10 #[.int .i64 n] w fun e w' => e = .returned (.pointer none) ∧ Below w.heap.size w w' := by
  have h0 : decide (n < 0) = true := decide_eq_true hn
  go_enter Tryz.func10, Tryz.ntmps10
  go_wp2
  go_ret
  exact ⟨rfl, Below.refl _ _⟩
end Go.Proofs.YtmmoilmfpiclgaaGreat

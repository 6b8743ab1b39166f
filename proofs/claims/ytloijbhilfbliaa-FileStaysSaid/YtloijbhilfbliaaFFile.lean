/-
  A file in memory: its three cells, its bytes, its acts; what is kept of it; what is told of it.
-/
import Derived.Test.YtloijbhilfbliaaFRow6
namespace Go.Proofs.Ytloijbhilfbliaa
open Go.RowKit Go.Shelf

/-- Only blocks of M have turned. -/
structure Kept (M : Nat → Prop) (w w' : World) : Prop where
  os : w'.os = w.os
  tape : w'.tape = w.tape
  output : w'.output = w.output
  size : w.heap.size ≤ w'.heap.size
  block : ∀ k, k < w.heap.size → ¬ M k → w'.heap[k]? = w.heap[k]?

theorem Kept.refl (M : Nat → Prop) (w : World) : Kept M w w := ⟨rfl, rfl, rfl, Nat.le_refl _, fun _ _ _ => rfl⟩
theorem Kept.trans {M N : Nat → Prop} {w a b : World} (h : Kept M w a) (k : Kept N a b) (hn : ∀ g, N g → M g ∨ w.heap.size ≤ g) : Kept M w b :=
  ⟨k.os.trans h.os, k.tape.trans h.tape, k.output.trans h.output, Nat.le_trans h.size k.size, fun g hg hm => (k.block g (Nat.lt_of_lt_of_le hg h.size) (fun e => by
    rcases hn g e with h' | h'
    · exact hm h'
    · omega)).trans (h.block g hg hm)⟩
theorem Kept.below {M : Nat → Prop} {w w' : World} (h : Below w.heap.size w w') : Kept M w w' := ⟨h.os, h.tape, h.output, h.size, fun k hk _ => h.block k hk⟩
theorem Kept.grown {M : Nat → Prop} {w w' : World} {row : Option Nat} (h : w.grownBy w' row) (hm : ∀ g, row = some g → M g) : Kept M w w' := ⟨h.os, h.tape, h.output, h.size, fun k hk hn => h.block k hk (fun e => hn (hm k e.symm))⟩
theorem Kept.mono {M N : Nat → Prop} {w w' : World} (h : Kept M w w') (hm : ∀ g, M g → N g ∨ w.heap.size ≤ g) : Kept N w w' := ⟨h.os, h.tape, h.output, h.size, fun k hk hn => h.block k hk (fun e => by
  rcases hm k e with h' | h'
  · exact hn h'
  · omega)⟩
theorem Kept.to {M : Nat → Prop} {base : Nat} {w w' : World} (h : Kept M w w') (hb : base ≤ w.heap.size) (hm : ∀ g, M g → base ≤ g) : Below base w w' := ⟨h.os, h.tape, h.output, h.size, fun k hk => h.block k (by omega) (fun e => by have := hm k e; omega)⟩

theorem Block.same {w w' : World} {g cap : Nat} {cs : Array Value} (h : Block w g cap cs) (he : w'.heap[g]? = w.heap[g]?) : Block w' g cap cs := by
  obtain ⟨fz, h1, h2⟩ := h
  exact ⟨fz, he.trans h1, h2⟩
theorem BRow.same {w w' : World} {v : Value} {l : List UInt8} (h : BRow w v l) (he : ∀ g, v.ownBlock = some g → w'.heap[g]? = w.heap[g]?) : BRow w' v l := by
  rcases h with h | ⟨g, cap, cs, rfl, h1, h2, hb, h3⟩
  · exact .inl h
  · exact .inr ⟨g, cap, cs, rfl, h1, h2, hb.same (he g rfl), h3⟩
theorem BRow.below {w w' : World} {v : Value} {l : List UInt8} (h : BRow w v l) (hb : Below w.heap.size w w') : BRow w' v l := h.same fun g hg => hb.block g (h.own_lt g hg)
theorem BRow.mem {w : World} {v : Value} {l : List UInt8} (h : BRow w v l) {g : Nat} (hg : v.ownBlock = some g) : ∃ cs fz, w.heap[g]? = some (.cells cs 5 fz) := by
  rcases h with ⟨rfl, _⟩ | ⟨g', cap, cs, rfl, _, _, ⟨fz, hh, _⟩, _⟩
  · cases hg
  · cases hg; exact ⟨cs, fz, hh⟩
theorem owns_same {w w' : World} {base size n : Nat} {e : TypeId} {v : Value} {xs : List Value} (h : w.ownsRow base e size v n xs) (he : ∀ g, v.ownBlock = some g → w'.heap[g]? = w.heap[g]?) : w'.ownsRow base e size v n xs := by
  refine ⟨h.1, ?_⟩
  rcases h.2 with h' | ⟨g, cap, cur, rfl, h2, h3, h4⟩
  · exact .inl h'
  · exact .inr ⟨g, cap, cur, rfl, h2, (he g rfl).trans h3, h4⟩

/-- An act, as the closure that it is. -/
def ActAt (w : World) (f : Value) (a : Do) (I : Nat → Prop) : Prop :=
  match a with
  | .app b => ∃ c v, f = .func (.func 27) #[] #[.pointer (some ⟨c, 0, none⟩)] ∧ w.heap[c]? = some (.cells #[v] 54 (0, 0)) ∧ BRow w v b ∧ I c ∧ ∀ g, v.ownBlock = some g → I g
  | .cut n => ∃ c, f = .func (.func 36) #[] #[.pointer (some ⟨c, 0, none⟩)] ∧ w.heap[c]? = some (.cells #[.int .i64 (n : Int)] 3 (0, 0)) ∧ I c

theorem ActAt.same {w w' : World} {f : Value} {a : Do} {I J : Nat → Prop} (h : ActAt w f a I) (he : ∀ g, I g → w'.heap[g]? = w.heap[g]?) (hj : ∀ g, I g → J g) : ActAt w' f a J := by
  cases a with
  | app b =>
    obtain ⟨c, v, h1, h2, h3, h4, h5⟩ := h
    exact ⟨c, v, h1, (he c h4).trans h2, h3.same fun g hg => he g (h5 g hg), hj c h4, fun g hg => hj g (h5 g hg)⟩
  | cut n =>
    obtain ⟨c, h1, h2, h3⟩ := h
    exact ⟨c, h1, (he c h3).trans h2, hj c h3⟩

/-- The acts of a row. -/
def ActsAt (w : World) (fs : List Value) (A : List Do) (I : Nat → Prop) : Prop := fs.length = A.length ∧ ∀ k (h : k < A.length), ∃ f, fs[k]? = some f ∧ ActAt w f A[k] I

theorem ActsAt.same {w w' : World} {fs : List Value} {A : List Do} {I J : Nat → Prop} (h : ActsAt w fs A I) (he : ∀ g, I g → w'.heap[g]? = w.heap[g]?) (hj : ∀ g, I g → J g) : ActsAt w' fs A J :=
  ⟨h.1, fun k hk => by
    obtain ⟨f, h1, h2⟩ := h.2 k hk
    exact ⟨f, h1, h2.same he hj⟩⟩

/-- A file: M: the blocks that it writes; I: what its acts have caught. -/
structure FileAt (w : World) (p : Nat) (D : List UInt8) (A : List Do) (M I : Nat → Prop) : Prop where
  it : ∃ dv av rv fs, w.heap[p]? = some (.cells #[dv, av, rv] 57 (0, 0)) ∧ BRow w dv D ∧ BRow w rv (reads D A) ∧ w.ownsRow 0 61 1 av A.length fs ∧ ActsAt w fs A I ∧
    (dv.ownBlock = rv.ownBlock → capOf dv = capOf rv ∧ D <+: reads D A) ∧ M p ∧ (∀ g, dv.ownBlock = some g → M g) ∧ (∀ g, rv.ownBlock = some g → M g) ∧ (∀ g, av.ownBlock = some g → M g)
  fits : Fits D A
  small : bulk D A ≤ 100000
  mem : ∀ g, M g ∨ I g → g < w.heap.size
  apart : ∀ g, I g → ¬ M g

theorem FileAt.same {w w' : World} {p : Nat} {D : List UInt8} {A : List Do} {M I : Nat → Prop} (h : FileAt w p D A M I) (he : ∀ g, M g ∨ I g → w'.heap[g]? = w.heap[g]?) (hs : w.heap.size ≤ w'.heap.size) : FileAt w' p D A M I := by
  obtain ⟨dv, av, rv, fs, h1, h2, h3, h4, h5, h6, h7, h8, h9, h10⟩ := h.it
  exact ⟨⟨dv, av, rv, fs, (he p (.inl h7)).trans h1, h2.same fun g hg => he g (.inl (h8 g hg)), h3.same fun g hg => he g (.inl (h9 g hg)), owns_same h4 fun g hg => he g (.inl (h10 g hg)), h5.same (fun g hg => he g (.inr hg)) (fun _ h => h), h6, h7, h8, h9, h10⟩,
    h.fits, h.small, fun g hg => Nat.lt_of_lt_of_le (h.mem g hg) hs, h.apart⟩
theorem FileAt.kept {w w' : World} {p : Nat} {D : List UInt8} {A : List Do} {M I N : Nat → Prop} (h : FileAt w p D A M I) (hk : Kept N w w') (hn : ∀ g, M g ∨ I g → ¬ N g) : FileAt w' p D A M I :=
  h.same (fun g hg => hk.block g (h.mem g hg) (hn g hg)) hk.size
theorem FileAt.below {w w' : World} {p : Nat} {D : List UInt8} {A : List Do} {M I : Nat → Prop} (h : FileAt w p D A M I) (hb : Below w.heap.size w w') : FileAt w' p D A M I :=
  h.same (fun g hg => hb.block g (h.mem g hg)) hb.size

set_option maxRecDepth 100000 in
theorem conv_str {w : World} {v : Value} {l : List UInt8} (h : BRow w v l) : (convert 54 9 v).run Try.prog w = .ok (.string ⟨l.toArray⟩) w := by
  rcases h with ⟨rfl, rfl⟩ | ⟨g, cap, cs, rfl, h1, h2, hb, ht⟩
  · kernel_rfl
  · refine rowOf_str (c := cap) ⟨fun i hi => ?_, fun i hi => hb.free i (by omega)⟩
    rw [hb.cell, ← Array.getElem?_toList]
    have hx : (bys l)[i]? = some (.int .u8 ((l.getD i 0).toNat : Int)) := by simp [bys, hi]
    rw [← ht, List.getElem?_take, if_pos hi] at hx
    exact hx

set_option maxHeartbeats 1000000 in
set_option maxRecDepth 100000 in
theorem len_any {w : World} {p : Nat} {D : List UInt8} {A : List Do} {M I : Nat → Prop} (h : FileAt w p D A M I) :
    Calls Try.prog 15 #[.pointer (some ⟨p, 0, none⟩)] w fun e w' => e = .returned (.int .i64 ((reads D A).length : Nat)) ∧ w = w' := by
  obtain ⟨dv, av, rv, fs, h1, h2, h3, h4, h5, h6, h7, h8, h9, h10⟩ := h.it
  have k2 : w.cell? ⟨p, 2, none⟩ = some rv := by rw [cell_of_row w p 2 _ _ _ h1]; rfl
  obtain ⟨ad, c, rfl, _, _⟩ := h3.shape
  clear h1 h2 h3 h4 h5 h6 h7 h8 h9 h10 h
  go_enter Try.func15, Try.ntmps15
  go_wp2
  go_ret
  exact ⟨rfl, rfl⟩

set_option maxHeartbeats 1000000 in
set_option maxRecDepth 100000 in
theorem acts_any {w : World} {p : Nat} {D : List UInt8} {A : List Do} {M I : Nat → Prop} (h : FileAt w p D A M I) :
    Calls Try.prog 19 #[.pointer (some ⟨p, 0, none⟩)] w fun e w' => e = .returned (.int .i64 (A.length : Nat)) ∧ w = w' := by
  obtain ⟨dv, av, rv, fs, h1, h2, h3, h4, h5, h6, h7, h8, h9, h10⟩ := h.it
  have k2 : w.cell? ⟨p, 1, none⟩ = some av := by rw [cell_of_row w p 1 _ _ _ h1]; rfl
  have hav : ∃ ad c, av = .slice ad A.length c := by
    rcases h4.2 with ⟨rfl, h0⟩ | ⟨g, cap, cur, rfl, _⟩
    · exact ⟨none, 0, by rw [h0]⟩
    · exact ⟨_, cap, rfl⟩
  obtain ⟨ad, c, rfl⟩ := hav
  clear h1 h2 h3 h4 h5 h6 h7 h8 h9 h10 h
  go_enter Try.func19, Try.ntmps19
  go_wp2
  go_ret
  exact ⟨rfl, rfl⟩

set_option maxHeartbeats 1000000 in
set_option maxRecDepth 100000 in
theorem bytes_any {w : World} {p : Nat} {D : List UInt8} {A : List Do} {M I : Nat → Prop} (h : FileAt w p D A M I) :
    Calls Try.prog 14 #[.pointer (some ⟨p, 0, none⟩)] w fun e w' => e = .returned (.string ⟨(reads D A).toArray⟩) ∧ w = w' := by
  obtain ⟨dv, av, rv, fs, h1, h2, h3, h4, h5, h6, h7, h8, h9, h10⟩ := h.it
  have k2 : w.cell? ⟨p, 2, none⟩ = some rv := by rw [cell_of_row w p 2 _ _ _ h1]; rfl
  have hcv := conv_str h3
  obtain ⟨R, hR⟩ : ∃ R : ByteArray, ⟨(reads D A).toArray⟩ = R := ⟨_, rfl⟩
  rw [hR] at hcv ⊢
  obtain ⟨ad, c, rfl, _, _⟩ := h3.shape
  clear h1 h2 h3 h4 h5 h6 h7 h8 h9 h10 h hR
  go_enter Try.func14, Try.ntmps14
  go_wp2
  go_ret
  exact ⟨rfl, rfl⟩

set_option maxHeartbeats 1000000 in
set_option maxRecDepth 100000 in
theorem durable_any {w : World} {p : Nat} {D : List UInt8} {A : List Do} {M I : Nat → Prop} (h : FileAt w p D A M I) :
    Calls Try.prog 18 #[.pointer (some ⟨p, 0, none⟩)] w fun e w' => e = .returned (.string ⟨D.toArray⟩) ∧ w = w' := by
  obtain ⟨dv, av, rv, fs, h1, h2, h3, h4, h5, h6, h7, h8, h9, h10⟩ := h.it
  have k2 : w.cell? ⟨p, 0, none⟩ = some dv := by rw [cell_of_row w p 0 _ _ _ h1]; rfl
  have hcv := conv_str h2
  obtain ⟨R, hR⟩ : ∃ R : ByteArray, ⟨D.toArray⟩ = R := ⟨_, rfl⟩
  rw [hR] at hcv ⊢
  obtain ⟨ad, c, rfl, _, _⟩ := h2.shape
  clear h1 h2 h3 h4 h5 h6 h7 h8 h9 h10 h hR
  go_enter Try.func18, Try.ntmps18
  go_wp2
  go_ret
  exact ⟨rfl, rfl⟩
end Go.Proofs.Ytloijbhilfbliaa

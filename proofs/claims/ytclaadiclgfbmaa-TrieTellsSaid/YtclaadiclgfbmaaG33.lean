/-
  The document's trie: Put, of whatever entry. TrieTells: the program's trie and the document's, side by side.
-/
import Derived.Test.YtclaadiclgfbmaaG32
import Derived.Test.YtclaadiclgfbmaaG31
set_option linter.unusedVariables false
set_option linter.unusedSimpArgs false
namespace Go.Proofs.Ytclaadiclgfbmaa
open Go.RowKit Go.Shelf

set_option maxRecDepth 100000 in
set_option maxHeartbeats 4000000 in
theorem rput_none (R : Nat) (xw : ByteArray) (xn : Nat) (xg : Bool) (w : World) (hs : xw.size ≤ 1000) (hx : wordT xw = false) :
    Calls Try.prog 17 #[.pointer (some ⟨R, 0, none⟩), .agg #[.string xw, .int .u32 (xn : Int), .bool xg]] w fun e w' => e = .returned (.int .i64 7) ∧ Below w.heap.size w w' := by
  have q57 := fun W => refIs_any xw W (by omega)
  rw [hx] at q57
  go_enter Try.func17, Try.ntmps17
  go_upto_if 13 with (go_at_call 77; (with_reducible refine Calls.mono (q57 _) ?_); rintro e w6 ⟨rfl, rfl⟩)
  go_wp2
  go_ret
  exact ⟨rfl, below_alloc _ _⟩
end Go.Proofs.Ytclaadiclgfbmaa
namespace Go.Proofs.Ytclaadiclgfbmaa
open Go.RowKit Go.Shelf

theorem no_str {w : World} {B : Nat} {cs : Array Value} {t : TypeId} {fz : Nat × Nat} (h : w.heap[B]? = some (.cells cs t fz)) (hs : ∀ s, .string s ∉ cs.toList) (j : Nat) (s : ByteArray) : w.cell? ⟨B, j, none⟩ ≠ some (.string s) := by
  intro e
  rw [cell_of_row w B j _ _ _ h] at e
  exact hs s (List.mem_of_getElem? (by rw [Array.getElem?_toList]; exact e))
theorem ents_kept {w w' : World} {v : Value} {l : List Ent} {B : Nat} (h : Ents w v l) (hg : w.grownBy w' (some B)) (hB : ∀ j s, w.cell? ⟨B, j, none⟩ ≠ some (.string s)) : Ents w' v l := by
  obtain ⟨ad, c, rfl, hx⟩ := h
  cases hl : l with
  | nil => exact ⟨ad, c, rfl, fun i hi => by simp at hi⟩
  | cons y l' =>
    rw [← hl]
    refine Ents.grown ⟨ad, c, rfl, hx⟩ hg (fun a ha e => ?_)
    injection e with e
    obtain ⟨b, o, h1, h2, -⟩ := hx 0 (by rw [hl]; simp)
    rw [ha] at h1
    injection h1 with h1
    subst h1
    simp only at e
    subst e
    exact hB _ _ h2

structure Pair (w0 : World) (T R : Nat) (vf : Value) (L : List Ent) (t : Tr) (A : List Ent) (W : World) : Prop where
  tr : TrieAt W T (fun k => k ≠ T ∧ k ≠ R) t
  rf : RefT W R A
  en : Ents W vf L
  ne : T ≠ R
  lT : w0.heap.size ≤ T
  lR : w0.heap.size ≤ R
  bl : Below w0.heap.size w0 W

theorem Pair.below {w0 : World} {T R : Nat} {vf : Value} {L : List Ent} {t : Tr} {A : List Ent} {W W' : World} (h : Pair w0 T R vf L t A W) (hb : Below W.heap.size W W') : Pair w0 T R vf L t A W' :=
  ⟨h.tr.below hb, h.rf.below hb, h.en.below hb, h.ne, h.lT, h.lR, Below.next h.bl hb⟩
theorem Pair.drew {w0 : World} {T R : Nat} {vf : Value} {L : List Ent} {t : Tr} {A : List Ent} {W : World} (h : Pair w0 T R vf L t A W) : Pair w0 T R vf L t A W.drew := h.below (Below.refl _ W).drew
theorem Pair.trie {w0 : World} {T R : Nat} {vf : Value} {L : List Ent} {t : Tr} {A : List Ent} {W : World} (h : Pair w0 T R vf L t A W) : TrieAt W T (fun k => k ≠ T) t := h.tr.same (fun k hk => hk.1) (fun e => e rfl) (fun _ _ _ => rfl)
theorem Pair.row {w0 : World} {T R : Nat} {vf : Value} {L : List Ent} {t : Tr} {A : List Ent} {W : World} (h : Pair w0 T R vf L t A W) : ∃ v, W.cell? ⟨R, 0, none⟩ = some v ∧ Ents W v A ∧ ∃ ad c, v = .slice ad A.length c := by
  obtain ⟨ad, c, h1, _, _, h4⟩ := h.rf
  exact ⟨_, h1.cell, h4, ad, c, rfl⟩

theorem ref_grown {w w' : World} {R B : Nat} {A : List Ent} (h : RefT w R A) (hg : w.grownBy w' (some B)) (hne : R ≠ B) (hB : ∀ j s, w.cell? ⟨B, j, none⟩ ≠ some (.string s)) : RefT w' R A := by
  obtain ⟨ad, c, h1, h2, h3, h4⟩ := h
  exact ⟨ad, c, h1.kept hg (fun e => hne (by injection e)), h2, h3, ents_kept h4 hg hB⟩

theorem Pair.put {w0 : World} {T R : Nat} {vf : Value} {L : List Ent} {t : Tr} {A : List Ent} {W : World} (h : Pair w0 T R vf L t A W) (x : Ent) (hf : Fit t) (hs : x.word.size ≤ 1000) :
    Calls Try.prog 16 #[.pointer (some ⟨T, 0, none⟩), .agg #[.string x.word, .int .u32 (x.weight : Int), .bool x.gone]] W fun e w' => e = .returned (.int .i64 (if wordT x.word = true then 0 else 7)) ∧ Pair w0 T R vf L (putT t x) A w' := by
  cases hx : wordT x.word with
  | true =>
    refine (put_good t T _ x W h.tr hx hs (by have := hf.1; omega) (by have := hf.wl; omega)).mono ?_
    rintro e w' ⟨rfl, h1, h2⟩
    have hRl := h.rf.lt
    have hTl := h.tr.lt
    have hB : ∀ j s, W.cell? ⟨T, j, none⟩ ≠ some (.string s) := by
      obtain ⟨p, hp, _⟩ := h.tr
      exact no_str hp (fun s => by cases p <;> simp [ptrV])
    refine ⟨rfl, ⟨?_, ref_grown h.rf h2 (Ne.symm h.ne) hB, ents_kept h.en h2 hB, h.ne, h.lT, h.lR, h.bl.grown h2 h.bl.size (fun k hk => by injection hk with hk; rw [← hk]; exact h.lT)⟩⟩
    unfold putT
    rw [if_pos hx]
    exact h1.same (fun k hk => hk.elim (fun h => h) (fun h => ⟨fun e => by omega, fun e => by omega⟩)) (fun h => h.1 rfl) (fun _ _ _ => rfl)
  | false =>
    refine (put_bad T x W hx (by omega)).mono ?_
    rintro e w' ⟨rfl, hb⟩
    unfold putT
    rw [hx, if_neg (by simp)]
    exact ⟨by simp, h.below hb⟩

theorem putT_all (t : Tr) (x : Ent) : (putT t x).all [] = if wordT x.word = true then putE (t.all []) (bare x) else t.all [] := by
  unfold putT
  split
  · rw [Tr.all_put, bare_said]
  · rfl

theorem Pair.rput {w0 : World} {T R : Nat} {vf : Value} {L : List Ent} {t s : Tr} {W : World} (h : Pair w0 T R vf L t (s.all []) W) (x : Ent) (hf : Fit s) (hs : x.word.size ≤ 1000) :
    Calls Try.prog 17 #[.pointer (some ⟨R, 0, none⟩), .agg #[.string x.word, .int .u32 (x.weight : Int), .bool x.gone]] W fun e w' => e = .returned (.int .i64 (if wordT x.word = true then 0 else 7)) ∧ Pair w0 T R vf L t ((putT s x).all []) w' := by
  rw [putT_all]
  cases hx : wordT x.word with
  | true =>
    refine (rput_word (s.all []) R x.word x.weight x.gone W h.rf (Tr.all_rising s []) (Nat.le_trans hf.1 (by decide)) hf.2 hx).mono ?_
    rintro e w' ⟨rfl, h1, h2⟩
    have hTl := h.tr.lt
    have hB : ∀ j s, W.cell? ⟨R, j, none⟩ ≠ some (.string s) := by
      obtain ⟨ad, c, hp, _⟩ := h.rf
      exact no_str hp (fun s => by simp)
    refine ⟨by simp, ⟨?_, by simpa using h1, ents_kept h.en h2 hB, h.ne, h.lT, h.lR, h.bl.grown h2 h.bl.size (fun k hk => by injection hk with hk; rw [← hk]; exact h.lR)⟩⟩
    refine h.tr.same (fun k hk => hk) (fun e => e.1 rfl) (fun k hk hl => h2.block k hl (fun e => ?_))
    injection e with e
    rcases hk with hk | hk
    · exact h.ne (by rw [← hk, e])
    · exact hk.2 e
  | false =>
    refine (rput_none R x.word x.weight x.gone W hs hx).mono ?_
    rintro e w' ⟨rfl, hb⟩
    exact ⟨by simp, by simpa using h.below hb⟩
end Go.Proofs.Ytclaadiclgfbmaa

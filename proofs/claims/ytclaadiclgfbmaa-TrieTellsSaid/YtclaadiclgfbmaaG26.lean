/-
  Put: no word; a word.
-/
import Derived.Test.YtclaadiclgfbmaaG24
import Derived.Test.YtclaadiclgfbmaaG25
import Derived.Deep.RegionHeld3
import Derived.Deep.RegionWith
set_option linter.unusedVariables false
set_option linter.unusedSimpArgs false
namespace Go.Proofs.Ytclaadiclgfbmaa
open Go.RowKit Go.Shelf

theorem strs_single {w : World} {x : ByteArray} {g : Nat} (hg : g = w.heap.size) : Strs (w.alloc (.cells #[.string x] 9)) (.slice (some ⟨g, 0, none⟩) 1 1) [x] := by
  subst hg
  refine ⟨_, _, rfl, fun i hi => ⟨_, _, rfl, ?_⟩⟩
  have : i = 0 := by simpa using hi
  subst this
  simp

theorem chk_one (x : ByteArray) (r : Nat) (hr : (if wordT x = true then 0 else 7) = r) (hx : x.size ≤ 9223372036854775807) (W : World) (g : Nat) (hg : g = W.heap.size) :
    Calls Try.prog 74 #[.slice (some ⟨g, 0, none⟩) 1 1] (W.alloc (.cells #[.string x] 9)) fun e w' => e = .returned (.int .i64 (r : Int)) ∧ W.alloc (.cells #[.string x] 9) = w' := by
  refine (check_any [x] _ _ (strs_single hg) (fun s hs => by simp at hs; rw [hs]; exact hx) (by simp)).mono ?_
  rintro e w' ⟨rfl, rfl⟩
  refine ⟨?_, rfl⟩
  rw [← hr]
  unfold checkT
  simp

set_option maxRecDepth 100000 in
set_option maxHeartbeats 8000000 in
theorem put_bad (T : Nat) (x : Ent) (w : World) (hx : wordT x.word = false) (hs : x.word.size ≤ 9223372036854775807) :
    Calls Try.prog 16 #[.pointer (some ⟨T, 0, none⟩), .agg #[.string x.word, .int .u32 (x.weight : Int), .bool x.gone]] w fun e w' => e = .returned (.int .i64 7) ∧ Below w.heap.size w w' := by
  have q32 := fun W g (hg : g = W.heap.size) => chk_one x.word 7 (by rw [hx]; rfl) hs W g hg
  go_enter Try.func16, Try.ntmps16
  go_wp2_with (go_at_call 74; (with_reducible refine (q32 _ _ (by simp)).mono ?_); rintro e w1 ⟨rfl, rfl⟩)
  go_ret
  exact ⟨rfl, ((Below.refl _ w).alloc (Nat.le_refl _) _).alloc (by simp) _⟩

theorem gb_refl (w : World) (r : Option Nat) : w.grownBy w r := ⟨rfl, rfl, rfl, Nat.le_refl _, fun _ _ _ => rfl⟩
theorem gb_drew {w W : World} {r : Option Nat} (h : w.grownBy W r) : w.grownBy W.drew r := ⟨h.os, h.tape, h.output, h.size, h.block⟩
theorem gb_below {w W W' : World} {r : Option Nat} (h : w.grownBy W r) (hb : Below W.heap.size W W') : w.grownBy W' r :=
  ⟨hb.os.trans h.os, hb.tape.trans h.tape, hb.output.trans h.output, Nat.le_trans h.size hb.size, fun k hk hn => (hb.block k (Nat.lt_of_lt_of_le hk h.size)).trans (h.block k hk hn)⟩
theorem gb_set {w W : World} {T : Nat} (h : w.grownBy W (some T)) (i : Nat) (v : Value) : w.grownBy (W.setCell ⟨T, i, none⟩ v) (some T) := by
  have k := grown_setCell W T i v
  exact ⟨k.os.trans h.os, k.tape.trans h.tape, k.output.trans h.output, Nat.le_trans h.size k.size, fun j hj hn => (k.block j (Nat.lt_of_lt_of_le hj h.size) hn).trans (h.block j hj hn)⟩
theorem gb_trans {a b c : World} {r : Option Nat} (h : a.grownBy b r) (k : b.grownBy c r) : a.grownBy c r :=
  ⟨k.os.trans h.os, k.tape.trans h.tape, k.output.trans h.output, Nat.le_trans h.size k.size, fun j hj hn => (k.block j (Nat.lt_of_lt_of_le hj h.size) hn).trans (h.block j hj hn)⟩

theorem put_fin {w WX W1 w3 : World} {T q : Nat} {O : Nat → Prop} {t' : Tr} {u : Value} (hTl : T < w.heap.size) (hOT : ¬ O T) (hg' : t'.Good) (hX : WX.heap[T]? = some (.cells #[u, .int .i64 ((t'.all []).length : Int), .int .i64 (wordsLen (t'.all []) : Int)] 117 (0, 0))) (hgX : w.grownBy WX (some T))
    (b01 : Below WX.heap.size WX W1) (hN : NodeO (Since (fun k => O k ∧ k < w.heap.size) W1) w3 t' (some q)) (b3 : Below W1.heap.size W1 w3) :
    TrieAt (w3.setCell ⟨T, 0, none⟩ (.pointer (some ⟨q, 0, none⟩))) T (Since O w) t' ∧ w.grownBy (w3.setCell ⟨T, 0, none⟩ (.pointer (some ⟨q, 0, none⟩))) (some T) := by
  have z1 := hgX.size
  have z2 := b01.size
  have hX1 := (b01.block T (by omega)).trans hX
  have hX3 := (b3.block T (by omega)).trans hX1
  refine ⟨⟨some q, ?_, hN.kept (fun k h => ?_) (fun k h _ => Below.heap_setCell _ _ _ _ (show k ≠ T from fun e => ?_)), fun h => ?_, hg'⟩, gb_set (gb_below (gb_below hgX b01) b3) _ _⟩
  · unfold TrieBlk
    rw [cells_setCell hX3]
    rfl
  · rcases h with h | h
    · exact .inl h.1
    · exact .inr (by omega)
  · subst e
    rcases h with h | h
    · exact hOT h.1
    · omega
  · rcases h with h | h
    · exact hOT h
    · omega

/-- What the last step reads, and the calls that it makes. -/
structure PutBody (w WX : World) (T : Nat) (O : Nat → Prop) (t' : Tr) (x : Ent) (p : Option Nat) : Prop where
  c0 : WX.cell? ⟨T, 0, none⟩ = some (ptrV p)
  f0 : WX.frozen? ⟨T, 0, none⟩ = false
  lT : T < WX.heap.size
  box : ∀ W, WX.grownBy W (some T) → W.cell? ⟨w.heap.size, 0, none⟩ = some (.string x.word) ∧ W.cell? ⟨w.heap.size, 1, none⟩ = some (.int .u32 (x.weight : Int)) ∧ W.cell? ⟨w.heap.size, 2, none⟩ = some (.bool x.gone)
  call : ∀ W, Below WX.heap.size WX W → Calls Try.prog 75 #[ptrV p, .string x.word, valV (saidE x)] W fun e w' => ∃ q, e = .returned (.pointer (some ⟨q, 0, none⟩)) ∧ NodeO (Since (fun k => O k ∧ k < w.heap.size) W) w' t' (some q) ∧ Below W.heap.size W w'
  done : ∀ W1 w3 q, Below WX.heap.size WX W1 → NodeO (Since (fun k => O k ∧ k < w.heap.size) W1) w3 t' (some q) → Below W1.heap.size W1 w3 → TrieAt (w3.setCell ⟨T, 0, none⟩ (.pointer (some ⟨q, 0, none⟩))) T (Since O w) t' ∧ w.grownBy (w3.setCell ⟨T, 0, none⟩ (.pointer (some ⟨q, 0, none⟩))) (some T)

theorem put_body {w WX : World} {T : Nat} {O : Nat → Prop} {t : Tr} {x : Ent} {p : Option Nat} (hTl : T < w.heap.size) (hOT : ¬ O T) (hg' : (t.put x.word.data.toList (saidE x)).Good)
    (hX : WX.heap[T]? = some (.cells #[ptrV p, .int .i64 (((t.put x.word.data.toList (saidE x)).all []).length : Int), .int .i64 (wordsLen ((t.put x.word.data.toList (saidE x)).all []) : Int)] 117 (0, 0))) (hgX : w.grownBy WX (some T)) (hN : NodeO (fun k => O k ∧ k < w.heap.size) w t p) (hs : x.word.size ≤ 1000)
    (k0 : WX.cell? ⟨w.heap.size, 0, none⟩ = some (.string x.word)) (k1 : WX.cell? ⟨w.heap.size, 1, none⟩ = some (.int .u32 (x.weight : Int))) (k2 : WX.cell? ⟨w.heap.size, 2, none⟩ = some (.bool x.gone)) :
    PutBody w WX T O (t.put x.word.data.toList (saidE x)) x p := by
  have z := hgX.size
  have lT : T < WX.heap.size := by omega
  have lB : w.heap.size < WX.heap.size := block_lt_of_cell k0
  have hNX : NodeO (fun k => O k ∧ k < w.heap.size) WX t p := hN.kept (fun _ h => h) (fun k h hk => hgX.block k hk (fun e => by cases e; exact hOT h.1))
  refine ⟨by rw [cell_of_row WX T 0 _ _ _ hX]; rfl, by simp [World.frozen?, hX], lT, fun W h => ?_, fun W hb => ?_, fun W1 w3 q b01 hN b3 => put_fin hTl hOT hg' hX hgX b01 hN b3⟩
  · have e : W.heap[w.heap.size]? = WX.heap[w.heap.size]? := h.block _ lB (fun e => by cases e; omega)
    exact ⟨(World.cell?_of_block (a := ⟨w.heap.size, 0, none⟩) e).trans k0, (World.cell?_of_block (a := ⟨w.heap.size, 1, none⟩) e).trans k1, (World.cell?_of_block (a := ⟨w.heap.size, 2, none⟩) e).trans k2⟩
  · have zb := hb.size
    exact with_any (saidE x) _ x.word rfl (by omega) t p W _ (fun k h => by have := h.2; omega) (hNX.below hb)

set_option maxRecDepth 100000 in
set_option maxHeartbeats 8000000 in
theorem put_good (t : Tr) (T : Nat) (O : Nat → Prop) (x : Ent) (w : World) (h : TrieAt w T O t) (hx : wordT x.word = true) (hs : x.word.size ≤ 1000) (hl : (t.all []).length ≤ 1000) (hwl : wordsLen (t.all []) ≤ 1000000) :
    Calls Try.prog 16 #[.pointer (some ⟨T, 0, none⟩), .agg #[.string x.word, .int .u32 (x.weight : Int), .bool x.gone]] w fun e w' => e = .returned (.int .i64 0) ∧ TrieAt w' T (Since O w) (t.put x.word.data.toList (saidE x)) ∧ w.grownBy w' (some T) := by
  have q32 := fun W g (hg : g = W.heap.size) => chk_one x.word 0 (by rw [hx]; rfl) (by omega) W g hg
  have HT := Lib.hid h
  obtain ⟨p, h1, h2, h3, h4⟩ := h
  have hTl : T < w.heap.size := (Array.getElem?_eq_some_iff.1 h1).1
  have hTn : T ≠ w.heap.size := Nat.ne_of_lt hTl
  have Q16 := Lib.hid (fun W (hb : Below w.heap.size w W) => get_any t T O x.word W (HT.out.below hb) (by omega))
  clear h1 h2 h3 h4
  cases hg : t.get x.word.data.toList with
  | some y =>
    have Q := Lib.hid (fun W (hb : Below w.heap.size w W) => (by have := Q16.out W hb; rw [gotV_some hg] at this; exact this : Calls Try.prog 23 #[.pointer (some ⟨T, 0, none⟩), .string x.word] W fun e w' => e = .returned (.tuple #[.agg #[.string x.word, .int .u32 (y.1 : Int), .bool y.2], .bool true]) ∧ Below W.heap.size W w'))
    clear Q16
    go_enter Try.func16, Try.ntmps16
    go_wp2_with (first
      | (go_at_call 74; (with_reducible refine (q32 _ _ (by simp)).mono ?_); rintro e w1 ⟨rfl, rfl⟩)
      | (go_at_call 23; (with_reducible refine (Q.out _ (((Below.refl _ w).alloc (Nat.le_refl _) _).alloc (by simp) _)).mono ?_); rintro e w1 ⟨rfl, hb1⟩; obtain ⟨hc1, hf1⟩ := bcell hb1; have HB1 := Lib.hid hb1; clear hb1))
    have hb1 := HB1.out
    have hbw1 : Below w.heap.size w w1 := Below.next (((Below.refl _ w).alloc (Nat.le_refl _) _).alloc (by simp) _) hb1
    obtain ⟨k0, k1, k2⟩ := box_kept (Below.next (below_alloc _ _) hb1)
    have l1 : w.heap.size < w1.heap.size := block_lt_of_cell k0
    clear hc1 hf1
    obtain ⟨p, h1, h2, h3, h4⟩ := HT.out
    obtain ⟨WX, hWX⟩ : ∃ WX, WX = w1.alloc (.cells #[.string x.word, .int .u32 (y.1 : Int), .bool y.2] 33) := ⟨_, rfl⟩
    have bX : Below w1.heap.size w1 WX := by rw [hWX]; exact below_alloc _ _
    rw [← hWX]
    have hcount := put_count t x.word (saidE x)
    rw [hg] at hcount
    have PB := Lib.hid (put_body (p := p) hTl h3 (Tr.Good.put _ _ _ h4) (by
      have e1 := (bX.block T (by have := hbw1.size; omega)).trans ((hbw1.block T hTl).trans h1)
      rw [hcount.1, hcount.2]; exact e1) (gb_below (gb_below (gb_refl w _) hbw1) bX) h2.both hs ((bX.cell (p := ⟨w.heap.size, 0, none⟩) l1).trans k0) ((bX.cell (p := ⟨w.heap.size, 1, none⟩) l1).trans k1) ((bX.cell (p := ⟨w.heap.size, 2, none⟩) l1).trans k2))
    clear bX hWX k0 k1 k2 l1 hcount h1 h2 h3 h4
    have c0 := PB.out.c0
    have f0 := PB.out.f0
    have lT := PB.out.lT
    have cD : WX.drew.cell? ⟨T, 0, none⟩ = some (ptrV p) := c0
    obtain ⟨kb0, kb1, kb2⟩ := PB.out.box _ (gb_drew (gb_refl WX _))
    go_region_with
      (first
        | (go_at_call 76; (with_reducible refine (valueOf_any x _).mono ?_); rintro e w2 ⟨rfl, b2⟩; have N1 := fun (h : WX.grownBy WX.drew (some T)) => gb_below h b2; have cT : w2.cell? ⟨T, 0, none⟩ = some (ptrV p) := (b2.cell (p := ⟨T, 0, none⟩) lT).trans cD; obtain ⟨kw0, kw1, kw2⟩ := PB.out.box w2 (N1 (gb_drew (gb_refl WX _))))
        | (go_at_call 75; (with_reducible refine Calls.mono (PB.out.call _ (Below.next (Below.refl _ WX).drew b2)) ?_); rintro e w3 ⟨q, rfl, hN3, b3⟩; have N3 := fun (h : WX.grownBy w2 (some T)) => gb_below h b3; have cT3 : w3.cell? ⟨T, 0, none⟩ = some (ptrV p) := (b3.cell (p := ⟨T, 0, none⟩) (Nat.lt_of_lt_of_le lT b2.size)).trans cT; have fT3 : w3.frozen? ⟨T, 0, none⟩ = false := (b3.frozen (p := ⟨T, 0, none⟩) (Nat.lt_of_lt_of_le lT b2.size)).trans ((b2.frozen (p := ⟨T, 0, none⟩) lT).trans f0)))
    all_goals
      go_wp2
      go_ret
      obtain ⟨r1, r2⟩ := PB.out.done _ _ _ (Below.next (Below.refl _ WX).drew b2) hN3 b3
      exact ⟨rfl, r1, r2⟩
  | none =>
    have Q := Lib.hid (fun W (hb : Below w.heap.size w W) => (by have := Q16.out W hb; rw [gotV_none hg] at this; exact this : Calls Try.prog 23 #[.pointer (some ⟨T, 0, none⟩), .string x.word] W fun e w' => e = .returned (.tuple #[.agg #[.string ⟨#[]⟩, .int .u32 0, .bool false], .bool false]) ∧ Below W.heap.size W w'))
    clear Q16
    obtain ⟨p, h1, h2, h3, h4⟩ := HT.out
    have hcount := put_count t x.word (saidE x)
    rw [hg] at hcount
    have HC := Lib.hid hcount
    clear hcount
    obtain ⟨n, hn⟩ : ∃ n, (t.all []).length = n := ⟨_, rfl⟩
    obtain ⟨m, hm⟩ : ∃ m, wordsLen (t.all []) = m := ⟨_, rfl⟩
    have h1' : w.heap[T]? = some (.cells #[ptrV p, .int .i64 (n : Int), .int .i64 (m : Int)] 117 (0, 0)) := by rw [← hn, ← hm]; exact h1
    rw [hn] at hl
    rw [hm] at hwl
    have HNM := Lib.hid (And.intro hn hm)
    have HH := Lib.hid (And.intro h1' (And.intro h2 (And.intro h3 h4)))
    clear hn hm h1 h1' h2 h3 h4
    go_enter Try.func16, Try.ntmps16
    go_wp2_with (first
      | (go_at_call 74; (with_reducible refine (q32 _ _ (by simp)).mono ?_); rintro e w1 ⟨rfl, rfl⟩)
      | (go_at_call 23; (with_reducible refine (Q.out _ (((Below.refl _ w).alloc (Nat.le_refl _) _).alloc (by simp) _)).mono ?_); rintro e w1 ⟨rfl, hb1⟩; obtain ⟨k0, k1, k2⟩ := box_kept (Below.next (below_alloc _ _) hb1); have hbw1 : Below w.heap.size w w1 := Below.next (((Below.refl _ w).alloc (Nat.le_refl _) _).alloc (by simp) _) hb1; have g1 := (hbw1.block T hTl).trans HH.out.1; have a1 : w1.cell? ⟨T, 1, none⟩ = some (.int .i64 (n : Int)) := (cell_of_row w1 T 1 _ _ _ g1); have af : w1.frozen? ⟨T, 1, none⟩ = false := (by simp [World.frozen?, g1]); have l1 : T < w1.heap.size := Nat.lt_of_lt_of_le hTl hbw1.size; have HB1 := Lib.hid (And.intro hbw1 (And.intro k0 (And.intro k1 (And.intro k2 g1)))); clear hb1 hbw1 k0 k1 k2 g1))
    obtain ⟨hbw1, k0, k1, k2, g1⟩ := HB1.out
    obtain ⟨W8, hW8⟩ : ∃ W8, W8 = (w1.setCell ⟨T, 1, none⟩ (.int .i64 ((n : Int) + 1))).alloc (.cells #[.string ⟨#[]⟩, .int .u32 0, .bool false] 33) := ⟨_, rfl⟩
    rw [← hW8]
    have gb8 : w1.grownBy W8 (some T) := by rw [hW8]; exact gb_below (gb_set (gb_refl _ _) _ _) (below_alloc _ _)
    have g8 : W8.heap[T]? = some (.cells #[ptrV p, .int .i64 ((n : Int) + 1), .int .i64 (m : Int)] 117 (0, 0)) := by
      rw [hW8, (below_alloc _ _).block T (by rw [show (w1.setCell ⟨T, 1, none⟩ (.int .i64 ((n : Int) + 1))).heap.size = w1.heap.size by simp [World.setCell]]; exact l1), cells_setCell g1]
      rfl
    have lb : w.heap.size < w1.heap.size := block_lt_of_cell k0
    have kk : ∀ W, w1.grownBy W (some T) → W.heap[w.heap.size]? = w1.heap[w.heap.size]? := fun W h => h.block _ lb (fun e => by cases e; omega)
    have j0 := (World.cell?_of_block (a := ⟨w.heap.size, 0, none⟩) (kk W8 gb8)).trans k0
    have e2 : W8.cell? ⟨T, 2, none⟩ = some (.int .i64 (m : Int)) := (cell_of_row W8 T 2 _ _ _ g8)
    have ef : W8.frozen? ⟨T, 2, none⟩ = false := (by simp [World.frozen?, g8])
    have H8 := Lib.hid (And.intro gb8 (And.intro g8 kk))
    have HK := Lib.hid (And.intro k0 (And.intro k1 k2))
    clear hW8 gb8 g8 kk k0 k1 k2 g1 hbw1 a1 af
    go_still_tail 10, (by kernel_rfl)
    go_wp2
    obtain ⟨gb8, g8, kk⟩ := H8.out
    obtain ⟨k0, k1, k2⟩ := HK.out
    obtain ⟨WX, hWX⟩ : ∃ WX, WX = (W8.setCell ⟨T, 2, none⟩ (.int .i64 ((m : Int) + (x.word.size : Int)))).drew := ⟨_, rfl⟩
    rw [← hWX]
    have gbX : w1.grownBy WX (some T) := by rw [hWX]; exact gb_drew (gb_set gb8 _ _)
    have gX : WX.heap[T]? = some (.cells #[ptrV p, .int .i64 ((n : Int) + 1), .int .i64 ((m : Int) + (x.word.size : Int))] 117 (0, 0)) := by
      rw [hWX]
      show (W8.setCell ⟨T, 2, none⟩ (.int .i64 ((m : Int) + (x.word.size : Int)))).heap[T]? = _
      rw [cells_setCell g8]
      rfl
    have PB := Lib.hid (put_body (p := p) hTl HH.out.2.2.1 (Tr.Good.put _ _ _ HH.out.2.2.2) (by
      rw [HC.out.1, HC.out.2, HNM.out.1, HNM.out.2]
      exact gX) (gb_trans (gb_below (gb_refl w _) HB1.out.1) gbX) HH.out.2.1.both hs ((World.cell?_of_block (a := ⟨w.heap.size, 0, none⟩) (kk WX gbX)).trans k0) ((World.cell?_of_block (a := ⟨w.heap.size, 1, none⟩) (kk WX gbX)).trans k1) ((World.cell?_of_block (a := ⟨w.heap.size, 2, none⟩) (kk WX gbX)).trans k2))
    clear hWX gbX gX gb8 g8 kk k0 k1 k2 e2 ef j0 lb l1
    have c0 := PB.out.c0
    have f0 := PB.out.f0
    have lT := PB.out.lT
    have cD : WX.drew.cell? ⟨T, 0, none⟩ = some (ptrV p) := c0
    obtain ⟨kb0, kb1, kb2⟩ := PB.out.box _ (gb_drew (gb_refl WX _))
    go_region_with
      (first
        | (go_at_call 76; (with_reducible refine (valueOf_any x _).mono ?_); rintro e w2 ⟨rfl, b2⟩; have N1 := fun (h : WX.grownBy WX.drew (some T)) => gb_below h b2; have cT : w2.cell? ⟨T, 0, none⟩ = some (ptrV p) := (b2.cell (p := ⟨T, 0, none⟩) lT).trans cD; obtain ⟨kw0, kw1, kw2⟩ := PB.out.box w2 (N1 (gb_drew (gb_refl WX _))))
        | (go_at_call 75; (with_reducible refine Calls.mono (PB.out.call _ (Below.next (Below.refl _ WX).drew b2)) ?_); rintro e w3 ⟨q, rfl, hN3, b3⟩; have N3 := fun (h : WX.grownBy w2 (some T)) => gb_below h b3; have cT3 : w3.cell? ⟨T, 0, none⟩ = some (ptrV p) := (b3.cell (p := ⟨T, 0, none⟩) (Nat.lt_of_lt_of_le lT b2.size)).trans cT; have fT3 : w3.frozen? ⟨T, 0, none⟩ = false := (b3.frozen (p := ⟨T, 0, none⟩) (Nat.lt_of_lt_of_le lT b2.size)).trans ((b2.frozen (p := ⟨T, 0, none⟩) lT).trans f0)))
    all_goals
      go_wp2
      go_ret
      obtain ⟨r1, r2⟩ := PB.out.done _ _ _ (Below.next (Below.refl _ WX).drew b2) hN3 b3
      exact ⟨rfl, r1, r2⟩
end Go.Proofs.Ytclaadiclgfbmaa

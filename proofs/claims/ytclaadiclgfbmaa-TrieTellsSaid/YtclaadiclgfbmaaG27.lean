/-
  All, Len, Size; New. Nodes from outside: Root, Value, Bytes, Step. Are two entries one; are two lists alike. The chapter's trie, in plain words. The chapter's trie in memory. Tries that are none; the closed statement's trie in plain words. Few entries, of words that are cut. The law's steps down a row. What stands under a row: its own entry, and what stands under it with each byte that leads on.
-/
import Derived.Test.YtclaadiclgfbmaaG26
set_option linter.unusedVariables false
set_option linter.unusedSimpArgs false
namespace Go.Proofs.Ytclaadiclgfbmaa
open Go.RowKit Go.Shelf

/-- Few entries, of words. -/
def Fit (t : Tr) : Prop := (t.all []).length ≤ 45 ∧ ∀ x ∈ t.all [], x.word.size ≤ 255

theorem Fit.wl {t : Tr} (h : Fit t) : wordsLen (t.all []) ≤ 100000 := by
  have : ∀ l : List Ent, (∀ x ∈ l, x.word.size ≤ 255) → wordsLen l ≤ 255 * l.length := by
    intro l
    induction l with
    | nil => intro _; exact Nat.le_refl _
    | cons x l ih =>
      intro h
      have h1 := h x (List.mem_cons_self ..)
      have h2 := ih (fun y hy => h y (List.mem_cons_of_mem _ hy))
      show x.word.size + wordsLen l ≤ _
      rw [List.length_cons]; omega
  have h1 := this _ h.2
  have h2 := h.1
  omega
theorem Fit.get {t : Tr} (h : Fit t) (r : List UInt8) (hr : (t.get r).isSome = true) : r.length < 256 := by
  obtain ⟨v, hv⟩ := Option.isSome_iff_exists.1 hr
  have := h.2 (entOf r v) ((Tr.mem_all t [] _).2 ⟨r, rfl, hv⟩)
  have e : (entOf r v).word.size = r.length := by rw [← ba_length]; rfl
  omega
theorem down_all_le : ∀ (s : List UInt8) (t : Tr), ((t.down s).all []).length ≤ (t.all []).length
  | [], _ => Nat.le_refl _
  | b :: s, t => Nat.le_trans (down_all_le s (t.way b)) (Tr.way_le t b [])
theorem Fit.slim {t : Tr} (h : Fit t) (hg : t.Good) (s : List UInt8) : Tr.Slim 256 (t.down s) :=
  Tr.Slim.of 256 _ (Tr.Good.down s hg) (fun r hr => by
    rw [← Tr.get_down] at hr
    have := h.get _ hr
    rw [List.length_append] at this
    omega) (Nat.lt_of_le_of_lt (down_all_le s t) (by have := h.1; omega))

/-- Under, at a trie. -/
theorem under_at {w : World} {T : Nat} {O : Nat → Prop} {t : Tr} (h : TrieAt w T O t) (hf : Fit t) (s : ByteArray) (hs : s.size ≤ 1000) :
    Calls Try.prog 25 #[.pointer (some ⟨T, 0, none⟩), .string s] w fun e w' => ∃ v, e = .returned v ∧ w'.ownsRow w.heap.size 33 3 v (underT (t.all []) s.data.toList).length (ents (underT (t.all []) s.data.toList)) ∧ Below w.heap.size w w' := by
  obtain ⟨p, h1, h2, h3, h4⟩ := h
  exact under_any t p _ _ T 256 s w h1 h2.here (hf.slim h4 _) (by omega) (by have := hf.1; omega)

set_option maxHeartbeats 1000000 in
theorem all_at {w : World} {T : Nat} {O : Nat → Prop} {t : Tr} (h : TrieAt w T O t) (hf : Fit t) :
    Calls Try.prog 22 #[.pointer (some ⟨T, 0, none⟩)] w fun e w' => ∃ v, e = .returned v ∧ w'.ownsRow w.heap.size 33 3 v (t.all []).length (ents (t.all [])) ∧ Below w.heap.size w w' := by
  have q := under_at h hf ⟨#[]⟩ (by decide)
  rw [show underT (t.all []) (⟨#[]⟩ : ByteArray).data.toList = t.all [] from underT_nil _] at q
  clear h hf
  go_enter Try.func22, Try.ntmps22
  go_wp2_with (go_at_call 25; (with_reducible refine q.mono ?_); rintro e w1 ⟨v, rfl, ho, hb⟩; have H := Lib.hid (And.intro ho hb); clear ho hb)
  go_ret
  exact ⟨v, rfl, H.out.1, H.out.2⟩

set_option maxHeartbeats 1000000 in
theorem len_at {w : World} {T : Nat} {O : Nat → Prop} {t : Tr} (h : TrieAt w T O t) :
    Calls Try.prog 18 #[.pointer (some ⟨T, 0, none⟩)] w fun e w' => e = .returned (.int .i64 ((t.all []).length : Int)) ∧ w = w' := by
  obtain ⟨p, h1, h2, h3, h4⟩ := h
  have c1 : w.cell? ⟨T, 1, none⟩ = some (.int .i64 ((t.all []).length : Int)) := (cell_of_row w T 1 _ _ _ h1)
  clear h1 h2 h3 h4
  go_enter Try.func18, Try.ntmps18
  go_wp2
  go_ret
  exact ⟨rfl, rfl⟩

/-- What the entries count. -/
def sizeE (l : List Ent) : Nat := wordsLen l + 8 * l.length

set_option maxRecDepth 100000 in
set_option maxHeartbeats 1000000 in
theorem size_at {w : World} {T : Nat} {O : Nat → Prop} {t : Tr} (h : TrieAt w T O t) (hf : Fit t) :
    Calls Try.prog 19 #[.pointer (some ⟨T, 0, none⟩)] w fun e w' => e = .returned (.int .i64 (sizeE (t.all []) : Int)) ∧ Below w.heap.size w w' := by
  have hwl := hf.wl
  have hl := hf.1
  obtain ⟨p, h1, h2, h3, h4⟩ := h
  unfold sizeE
  have c1 : w.cell? ⟨T, 1, none⟩ = some (.int .i64 ((t.all []).length : Int)) := (cell_of_row w T 1 _ _ _ h1)
  have c2 : w.cell? ⟨T, 2, none⟩ = some (.int .i64 (wordsLen (t.all []) : Int)) := (cell_of_row w T 2 _ _ _ h1)
  generalize wordsLen (t.all []) = m at c2 hwl ⊢
  generalize (t.all []).length = n at c1 hl ⊢
  clear h1 h2 h3 h4 hf
  have e1 : IntKind.i64.wrap (8 * (n : Int)) = 8 * (n : Int) := IntWalk.i64_in _ (by omega)
  have e2 : IntKind.i64.wrap ((m : Int) + 8 * (n : Int)) = (m : Int) + 8 * (n : Int) := IntWalk.i64_in _ (by omega)
  go_enter Try.func19, Try.ntmps19
  go_wp2
  go_still_tail 10, (by kernel_rfl)
  go_wp2
  go_ret
  exact ⟨by simp [e2], (Below.refl _ w).drew⟩

/-- What a put makes of a trie. -/
def putT (t : Tr) (x : Ent) : Tr := if wordT x.word = true then t.put x.word.data.toList (saidE x) else t
def newT (l : List Ent) : Tr := l.foldl putT .nil
theorem newT_snoc (l : List Ent) (x : Ent) : newT (l ++ [x]) = putT (newT l) x := by simp [newT]

theorem putT_fit {t : Tr} {n : Nat} (h1 : (t.all []).length ≤ n) (h2 : ∀ x ∈ t.all [], x.word.size ≤ 255) (x : Ent) : ((putT t x).all []).length ≤ n + 1 ∧ ∀ y ∈ (putT t x).all [], y.word.size ≤ 255 := by
  unfold putT
  split
  · rename_i hx
    rw [Tr.all_put]
    refine ⟨Nat.le_trans (putE_length _ _) (by omega), fun y hy => ?_⟩
    rcases mem_putE hy with rfl | hy
    · have e : (entOf x.word.data.toList (saidE x)).word.size = x.word.size := by rw [← ba_length, ← ba_length]; rfl
      have := (wordT_true hx).2
      omega
    · exact h2 y hy
  · exact ⟨by omega, h2⟩
theorem fold_fit : ∀ (l : List Ent) (t : Tr) (n : Nat), (t.all []).length ≤ n → (∀ x ∈ t.all [], x.word.size ≤ 255) → ((l.foldl putT t).all []).length ≤ n + l.length ∧ ∀ y ∈ (l.foldl putT t).all [], y.word.size ≤ 255
  | [], _, _, h1, h2 => ⟨h1, h2⟩
  | x :: l, t, n, h1, h2 => by
    obtain ⟨a, b⟩ := putT_fit h1 h2 x
    obtain ⟨c, d⟩ := fold_fit l (putT t x) (n + 1) a b
    exact ⟨by rw [List.length_cons]; rw [List.foldl_cons]; omega, d⟩
theorem newT_fit' (l : List Ent) : ((newT l).all []).length ≤ l.length ∧ ∀ y ∈ (newT l).all [], y.word.size ≤ 255 := by
  have h := fold_fit l .nil 0 (Nat.le_refl _) (fun y hy => by cases hy)
  rw [Nat.zero_add] at h
  exact h
theorem newT_fit {l : List Ent} (h : l.length ≤ 45) : Fit (newT l) := ⟨Nat.le_trans (newT_fit' l).1 h, (newT_fit' l).2⟩

theorem put_any {t : Tr} {T : Nat} {x : Ent} {w : World} (h : TrieAt w T (fun k => k ≠ T) t) (hf : Fit t) (hs : x.word.size ≤ 1000) :
    Calls Try.prog 16 #[.pointer (some ⟨T, 0, none⟩), .agg #[.string x.word, .int .u32 (x.weight : Int), .bool x.gone]] w fun e w' => e = .returned (.int .i64 (if wordT x.word = true then 0 else 7)) ∧ TrieAt w' T (fun k => k ≠ T) (putT t x) ∧ w.grownBy w' (some T) := by
  have hT := h.lt
  unfold putT
  cases hx : wordT x.word with
  | true =>
    refine (put_good t T _ x w h hx hs (by have := hf.1; omega) (by have := hf.wl; omega)).mono ?_
    rintro e w' ⟨rfl, h1, h2⟩
    refine ⟨rfl, ?_, h2⟩
    rw [if_pos rfl]
    exact h1.same (fun k hk => hk.elim (fun h => h) (fun h e => by subst e; omega)) (fun h => h rfl) (fun _ _ _ => rfl)
  | false =>
    refine (put_bad T x w hx (by omega)).mono ?_
    rintro e w' ⟨rfl, hb⟩
    rw [if_neg (by simp)]
    exact ⟨by simp, h.below hb, gb_below (gb_refl w _) hb⟩

set_option maxRecDepth 100000 in
set_option maxHeartbeats 1000000 in
theorem new_any (l : List Ent) (v : Value) (w : World) (hv : Ents w v l) (hl : l.length ≤ 45) (hs : ∀ x ∈ l, x.word.size ≤ 1000) :
    Calls Try.prog 15 #[v] w fun e w' => e = .returned (.pointer (some ⟨w.heap.size, 0, none⟩)) ∧ TrieAt w' w.heap.size (fun k => k ≠ w.heap.size) (newT l) ∧ Below w.heap.size w w' := by
  obtain ⟨ad, cp, rfl, hc⟩ := ents_cell hv
  have HC : Hid (∀ i, i < l.length → ∃ b o, ad = some ⟨b, o, none⟩ ∧ EntAt w b (o + i * 3) (ent l i)) := Lib.hid hc
  clear hc hv
  have H0 : Hid (TrieAt (w.alloc (.cells #[.pointer none, .int .i64 0, .int .i64 0] 117)) w.heap.size (fun k => k ≠ w.heap.size) (newT (l.take 0)) ∧ Below w.heap.size w (w.alloc (.cells #[.pointer none, .int .i64 0, .int .i64 0] 117))) := Lib.hid ⟨⟨none, World.alloc_heap_new w _, rfl, fun h => h rfl, trivial⟩, below_alloc _ _⟩
  go_enter Try.func15, Try.ntmps15
  go_wp2
  generalize w.alloc (.cells #[.pointer none, .int .i64 0, .int .i64 0] 117) = w0 at H0 ⊢
  go_loopw [5, 10] (fun _ s10 wr => ∃ k : Nat, k ≤ l.length ∧ s10 = .int .i64 k ∧ Hid (TrieAt wr w.heap.size (fun k => k ≠ w.heap.size) (newT (l.take k)) ∧ Below w.heap.size w wr)) (fun _ s10 _ => l.length - (intOf s10).toNat)
  case atStart => exact ⟨0, Nat.zero_le _, rfl, H0⟩
  case round =>
    obtain ⟨k, hk, rfl, HI⟩ := hrel
    by_cases hlt : k < l.length
    · obtain ⟨b, o, rfl, hE⟩ := HC.out k hlt
      obtain ⟨h1, h2, h3⟩ := hE.below HI.out.2
      have hn : b ≠ wr.heap.size := Nat.ne_of_lt (block_lt_of_cell h1)
      have hblt : b < wr.heap.size := block_lt_of_cell h1
      obtain ⟨x, hx⟩ : ∃ x, x = ent l k := ⟨_, rfl⟩
      rw [← hx] at h1 h2 h3
      have hxm : x ∈ l := by rw [hx]; exact ent_mem hlt
      have hsn : newT (l.take (k + 1)) = putT (newT (l.take k)) x := by rw [List.take_succ_eq_append_getElem hlt, newT_snoc, hx, ent_lt hlt]
      have q9 := fun W (hb : Below wr.heap.size wr W) => put_any (HI.out.1.below hb) (newT_fit (by rw [List.length_take]; omega)) (hs x hxm)
      have HQ := Lib.hid q9
      have HS := Lib.hid hsn
      clear q9 hsn hx
      go_wp2_with (go_at_call 16; (with_reducible refine (HQ.out _ (below_alloc _ _)).mono ?_); rintro e w3 ⟨rfl, hT3, hg3⟩; have H3 := Lib.hid (And.intro hT3 hg3); clear hT3 hg3)
      refine ⟨⟨k + 1, by omega, by go_num, Lib.hid ⟨by rw [HS.out]; exact H3.out.1, ?_⟩⟩, by simp [intOf]; omega⟩
      have hb := HI.out.2
      exact (hb.alloc hb.size _).grown H3.out.2 (by have := hb.size; simp; omega) (fun j e => by cases e; exact Nat.le_refl _)
    · go_wp2
      go_ret
      have e : k = l.length := by omega
      have hh := HI.out
      rw [e, List.take_length] at hh
      exact ⟨rfl, hh.1, hh.2⟩
end Go.Proofs.Ytclaadiclgfbmaa
namespace Go.Proofs.Ytclaadiclgfbmaa
open Go.RowKit Go.Shelf

/-- A node, as a value. -/
abbrev nodeV (p : Option Nat) : Value := .agg #[ptrV p]

theorem below3 (w : World) (a b c : Obj) : Below w.heap.size w (((w.alloc a).alloc b).alloc c) := (((Below.refl _ w).alloc (Nat.le_refl _) _).alloc (by simp) _).alloc (by simp; omega) _

set_option maxRecDepth 100000 in
set_option maxHeartbeats 1000000 in
theorem value_some {O : Nat → Prop} {w : World} {t : Tr} {q : Nat} (h : NodeO O w t (some q)) :
    Calls Try.prog 85 #[.agg #[.pointer (some ⟨q, 0, none⟩)]] w fun e w' => e = .returned (.tuple #[.int .u32 (vW t.val : Int), .bool (vG t.val), .bool (vI t.val)]) ∧ Below w.heap.size w w' := by
  obtain ⟨mv, P, hn, h1, h2, hO, h3⟩ := h.there
  have hq : q < w.heap.size := (Array.getElem?_eq_some_iff.1 h1).1
  have hqn : q ≠ w.heap.size := Nat.ne_of_lt hq
  have c0 : w.cell? ⟨q, 0, none⟩ = some (.int .u32 (vW t.val : Int)) := (cell_of_row w q 0 _ _ _ h1)
  have c1 : w.cell? ⟨q, 1, none⟩ = some (.bool (vG t.val)) := (cell_of_row w q 1 _ _ _ h1)
  have c2 : w.cell? ⟨q, 2, none⟩ = some (.bool (vI t.val)) := (cell_of_row w q 2 _ _ _ h1)
  generalize vW t.val = x at c0 ⊢
  generalize vG t.val = y at c1 ⊢
  generalize vI t.val = z at c2 ⊢
  clear h h1 h2 h3 hO hn
  go_enter Try.func85, Try.ntmps85
  go_wp2
  go_quiet (fail)
  go_wp2
  exact bodyPost_ret (v := .tuple #[.int .u32 (x : Int), .bool y, .bool z]) (by simp [results, Try.results85, go_sem]) rfl ⟨rfl, below_drewN (((Below.refl _ w).alloc (Nat.le_refl _) _).alloc (by simp) _) _⟩

set_option maxRecDepth 100000 in
set_option maxHeartbeats 1000000 in
theorem value_none (w : World) :
    Calls Try.prog 85 #[.agg #[.pointer none]] w fun e w' => e = .returned (.tuple #[.int .u32 0, .bool false, .bool false]) ∧ Below w.heap.size w w' := by
  go_enter Try.func85, Try.ntmps85
  go_wp2
  exact bodyPost_ret (v := .tuple #[.int .u32 0, .bool false, .bool false]) (by simp [results, Try.results85, go_sem]) rfl ⟨rfl, below_alloc _ _⟩

set_option maxRecDepth 100000 in
set_option maxHeartbeats 1000000 in
theorem bytes_none (w : World) :
    Calls Try.prog 36 #[.agg #[.pointer none]] w fun e w' => e = .returned (.slice none 0 0) ∧ Below w.heap.size w w' := by
  go_enter Try.func36, Try.ntmps36
  go_wp2
  go_ret
  exact ⟨rfl, below_alloc _ _⟩

set_option maxRecDepth 100000 in
set_option maxHeartbeats 1000000 in
theorem bytes_some {O : Nat → Prop} {w : World} {t : Tr} {q : Nat} (h : NodeO O w t (some q)) (hl : t.keys.length < 50) :
    Calls Try.prog 36 #[.agg #[.pointer (some ⟨q, 0, none⟩)]] w fun e w' => ∃ v, e = .returned v ∧ w'.ownsRow w.heap.size 5 1 v t.keys.length (t.keys.map enc8) ∧ Below w.heap.size w w' := by
  have hb := below_alloc w (.cells #[.pointer (some ⟨q, 0, none⟩)] 49)
  have q1 := rising_any t q _ ((h.below hb).all) hl
  have HB := Lib.hid hb
  clear h hl hb
  go_enter Try.func36, Try.ntmps36
  go_wp2_with (go_at_call 90; (with_reducible refine q1.mono ?_); rintro e w1 ⟨v, rfl, ho, hb⟩; have H := Lib.hid (And.intro ho hb); clear ho hb)
  go_ret
  obtain ⟨ho, hb⟩ := H.out
  refine ⟨v, rfl, ⟨ho.1, ?_⟩, Below.next HB.out hb⟩
  rcases ho.2 with h | ⟨g, cap, cur, e, hg, h⟩
  · exact .inl h
  · exact .inr ⟨g, cap, cur, e, by simp at hg; omega, h⟩

set_option maxRecDepth 100000 in
set_option maxHeartbeats 1000000 in
theorem step_some {O : Nat → Prop} {w : World} {t : Tr} {q : Nat} (h : NodeO O w t (some q)) (b : UInt8) :
    Calls Try.prog 88 #[.agg #[.pointer (some ⟨q, 0, none⟩)], .int .u8 (b.toNat : Int)] w fun e w' => ∃ p', e = .returned (.tuple #[nodeV p', .bool (!(t.way b).isNil)]) ∧ NodeO O w' (t.way b) p' ∧ Below w.heap.size w w' := by
  obtain ⟨mv, P, hn, h1, h2, hO, h3⟩ := h.there
  obtain ⟨mm, rfl⟩ := h2.shape
  have hq : q < w.heap.size := (Array.getElem?_eq_some_iff.1 h1).1
  have hqn : q ≠ w.heap.size := Nat.ne_of_lt hq
  have c3 : w.cell? ⟨q, 3, none⟩ = some (.map mm) := (cell_of_row w q 3 _ _ _ h1)
  have HL : ∀ (P2 : Option Nat) (v : Value), P b = P2 → ptrV P2 = v → ∀ W, Below w.heap.size w W → (Instr.lookup 127 (.map mm) (.int .u8 (b.toNat : Int)) false).run Try.prog W = .ok v W := fun P2 v e1 e2 W hb => by
    have := (h2.below hb).look b
    rw [e1, e2] at this
    exact this
  have hs := (h3 b).isSome
  have H3 := Lib.hid (h3 b)
  clear h h1 h2 h3 hO hn
  cases hp : P b with
  | none =>
    have hl := HL none _ hp rfl ((w.alloc (.cells #[.pointer (some ⟨q, 0, none⟩)] 49)).alloc (.cells #[.pointer none] 49)) (((Below.refl _ w).alloc (Nat.le_refl _) _).alloc (by simp) _)
    replace hl : _ = Result.ok (Value.pointer none) _ := hl
    rw [hp] at hs
    have HS : Hid ((t.way b).isNil = true) := Lib.hid (by simpa using hs.symm)
    rw [hp] at H3
    clear HL hs hp
    go_enter Try.func88, Try.ntmps88
    go_wp2
    exact bodyPost_ret (v := .tuple #[.agg #[.pointer none], .bool false]) (by simp [results, Try.results88, go_sem]) rfl ⟨none, by rw [HS.out]; rfl, by rw [Tr.eq_nil HS.out]; rfl, ((Below.refl _ w).alloc (Nat.le_refl _) _).alloc (by simp) _⟩
  | some q2 =>
    have hl := HL (some q2) _ hp rfl ((w.alloc (.cells #[.pointer (some ⟨q, 0, none⟩)] 49)).alloc (.cells #[.pointer none] 49)) (((Below.refl _ w).alloc (Nat.le_refl _) _).alloc (by simp) _)
    replace hl : _ = Result.ok (Value.pointer (some ⟨q2, 0, none⟩)) _ := hl
    rw [hp] at hs
    have HS : Hid ((t.way b).isNil = false) := Lib.hid (by simpa using hs.symm)
    rw [hp] at H3
    clear HL hs hp
    go_enter Try.func88, Try.ntmps88
    go_wp2
    have hb2 : Below w.heap.size w ((w.alloc (.cells #[.pointer (some ⟨q, 0, none⟩)] 49)).alloc (.cells #[.pointer (some ⟨q2, 0, none⟩)] 49)) := ((Below.refl _ w).alloc (Nat.le_refl _) _).alloc (by simp) _
    exact bodyPost_ret (v := .tuple #[.agg #[.pointer (some ⟨q2, 0, none⟩)], .bool true]) (by simp [results, Try.results88, go_sem]) rfl ⟨some q2, by rw [HS.out]; rfl, H3.out.below hb2, hb2⟩

set_option maxRecDepth 100000 in
set_option maxHeartbeats 1000000 in
theorem step_none (w : World) (b : UInt8) :
    Calls Try.prog 88 #[.agg #[.pointer none], .int .u8 (b.toNat : Int)] w fun e w' => e = .returned (.tuple #[.agg #[.pointer none], .bool false]) ∧ Below w.heap.size w w' := by
  go_enter Try.func88, Try.ntmps88
  go_wp2
  exact bodyPost_ret (v := .tuple #[.agg #[.pointer none], .bool false]) (by simp [results, Try.results88, go_sem]) rfl ⟨rfl, ((Below.refl _ w).alloc (Nat.le_refl _) _).alloc (by simp) _⟩

set_option maxRecDepth 100000 in
set_option maxHeartbeats 1000000 in
theorem root_at {w : World} {T : Nat} {O : Nat → Prop} {t : Tr} (h : TrieAt w T O t) :
    Calls Try.prog 30 #[.pointer (some ⟨T, 0, none⟩)] w fun e w' => ∃ q, e = .returned (.agg #[.pointer (some ⟨q, 0, none⟩)]) ∧ NodeO (Since O w) w' t.root (some q) ∧ Below w.heap.size w w' := by
  obtain ⟨p, h1, h2, h3, h4⟩ := h
  have hT : T < w.heap.size := (Array.getElem?_eq_some_iff.1 h1).1
  have hTn : T ≠ w.heap.size := Nat.ne_of_lt hT
  have c0 : w.cell? ⟨T, 0, none⟩ = some (ptrV p) := (cell_of_row w T 0 _ _ _ h1)
  have H2 := Lib.hid h2
  clear h1 h2 h3 h4
  cases p with
  | none =>
    replace c0 : w.cell? ⟨T, 0, none⟩ = some (.pointer none) := c0
    go_enter Try.func30, Try.ntmps30
    go_wp2
    have hb2 := ((Below.refl w.heap.size w).alloc (Nat.le_refl _) (.cells #[.pointer (some ⟨w.heap.size + 1, 0, none⟩)] 49)).alloc (by simp) (.cells #[.int .u32 0, .bool false, .bool false, .map none] 129)
    have hnw := World.alloc_heap_new (w.alloc (.cells #[.pointer (some ⟨w.heap.size + 1, 0, none⟩)] 49)) (.cells #[.int .u32 0, .bool false, .bool false, .map none] 129)
    rw [show (w.alloc (.cells #[.pointer (some ⟨w.heap.size + 1, 0, none⟩)] 49)).heap.size = w.heap.size + 1 by simp] at hnw
    exact bodyPost_ret (v := .agg #[.pointer (some ⟨w.heap.size + 1, 0, none⟩)]) (by simp [results, Try.results30, go_sem]) rfl ⟨w.heap.size + 1, rfl, by
      rw [H2.out.gone]
      exact ⟨w.heap.size + 1, .map none, fun _ => none, rfl, hnw, .inl ⟨rfl, rfl⟩, ⟨.inr (Nat.le_succ _), fun m e => by cases e⟩, fun _ => rfl⟩, hb2⟩
  | some q =>
    replace c0 : w.cell? ⟨T, 0, none⟩ = some (.pointer (some ⟨q, 0, none⟩)) := c0
    go_enter Try.func30, Try.ntmps30
    go_wp2
    have hr : t.root = t := by
      have := H2.out.there
      obtain ⟨_, _, h, _⟩ := this
      cases t with
      | nil => cases h
      | node v ws => rfl
    exact bodyPost_ret (v := .agg #[.pointer (some ⟨q, 0, none⟩)]) (by simp [results, Try.results30, go_sem]) rfl ⟨q, rfl, by rw [hr]; exact H2.out.kept (fun _ h => .inl h) (fun k _ hk => (below_alloc w _).block k hk), below_alloc _ _⟩
end Go.Proofs.Ytclaadiclgfbmaa
namespace Go.Proofs.Ytclaadiclgfbmaa
open Go.RowKit Go.Shelf

/-- Are two entries one? -/
def eqE (x y : Ent) : Bool := (x.word.toList == y.word.toList) && (((x.weight : Int) == (y.weight : Int)) && (x.gone == y.gone))

theorem eqE_iff (x y : Ent) : eqE x y = true ↔ x = y := by
  unfold eqE
  rw [Bool.and_eq_true, Bool.and_eq_true, toList_beq, decide_eq_true_eq, beq_iff_eq, beq_iff_eq]
  constructor
  · rintro ⟨h1, h2, h3⟩
    obtain ⟨a, n, g⟩ := x
    obtain ⟨b, m, k⟩ := y
    simp only at h1 h2 h3
    have : n = m := by omega
    rw [h1, this, h3]
  · rintro rfl
    exact ⟨rfl, rfl, rfl⟩
theorem eqE_self (x : Ent) : eqE x x = true := (eqE_iff x x).2 rfl

theorem run_eqE (x y : Ent) (w : World) : Sem.run Try.prog (binOp .eql 33 (.agg (enc x).toArray) (.agg (enc y).toArray)) w = .ok (.bool (eqE x y)) w := by
  have u9 := Try.underlying9
  have a9 := Try.isAgg9
  have z9 := Try.sizeOf9
  have u22 := Try.underlying31
  have a22 := Try.isAgg31
  have z22 := Try.sizeOf31
  have u4 := Try.underlying4
  have a4 := Try.isAgg4
  have z4 := Try.sizeOf4
  have hS : Try.prog.underlying 33 = some (.struct (Try.prog.fieldsOf 33)) := by kernel_rfl
  have hp : Try.prog.stoodInHeld 33 = false := by kernel_rfl
  unfold eqE
  simp only [enc]
  rw [run_eql_struct, show (10000 : Nat) = 9999 + 1 from rfl, run_equalIn_agg w 9999 33 _ _ hS hp]
  simp only [Program.fieldsOf, Try.underlying33]
  go_simp
  cases h1 : (x.word.toList == y.word.toList) <;> cases h2 : ((x.weight : Int) == (y.weight : Int)) <;> cases h3 : (x.gone == y.gone) <;> simp_all

set_option maxHeartbeats 1000000 in
set_option maxRecDepth 100000 in
theorem same_true (l : List Ent) (v1 v2 : Value) (w : World) (h1 : Ents w v1 l) (h2 : Ents w v2 l) (hlen : l.length ≤ 1000000) :
    Calls Try.prog 21 #[v1, v2] w fun e w' => e = .returned (.bool true) ∧ RowKit.Below w.heap.size w w' := by
  obtain ⟨ad1, c1, rfl, hx1⟩ := ents_cell h1
  obtain ⟨ad2, c2, rfl, hx2⟩ := ents_cell h2
  have HC1 : Hid (∀ i, i < l.length → ∃ b o, ad1 = some ⟨b, o, none⟩ ∧ EntAt w b (o + i * 3) (ent l i)) := Lib.hid hx1
  have HC2 : Hid (∀ i, i < l.length → ∃ b o, ad2 = some ⟨b, o, none⟩ ∧ EntAt w b (o + i * 3) (ent l i)) := Lib.hid hx2
  clear hx1 hx2 h1 h2
  go_enter Try.func21, Try.ntmps21
  go_wp2
  go_loopw [5] (fun s5 wr => ∃ k : Nat, k ≤ l.length ∧ s5 = .int .i64 k ∧ RowKit.Below w.heap.size w wr) (fun s5 _ => l.length - (intOf s5).toNat)
  case atStart => exact ⟨0, Nat.zero_le _, rfl, RowKit.Below.refl _ _⟩
  case round =>
    obtain ⟨k, hk, rfl, hb⟩ := hrel
    by_cases hlt : k < l.length
    · obtain ⟨b, o, rfl, hE⟩ := HC1.out k hlt
      obtain ⟨b', o', rfl, hE'⟩ := HC2.out k hlt
      obtain ⟨h1, h2, h3⟩ := hE.below hb
      obtain ⟨h4, h5, h6⟩ := hE'.below hb
      obtain ⟨y, hy⟩ : ∃ y, ent l k = y := ⟨_, rfl⟩
      rw [hy] at h1 h2 h3 h4 h5 h6
      clear hy hE hE'
      go_wp2
      go_quiet (fail)
      replace hb := below_drewN hb nq
      generalize wr.drewN nq = w2 at hb ⊢
      go_wp2
      exact ⟨⟨k + 1, by omega, by go_num, hb⟩, by simp [intOf]; omega⟩
    · go_wp2
      go_ret
      exact ⟨rfl, hb⟩
end Go.Proofs.Ytclaadiclgfbmaa
namespace Go.Proofs.Ytclaadiclgfbmaa
open Go.RowKit Go.Shelf

theorem bare_said (x : Ent) : entOf x.word.data.toList (saidE x) = bare x := by
  unfold saidE bare
  cases h : x.gone
  · show (⟨x.word, x.weight, false⟩ : Ent) = x
    rw [← h]
  · rfl

/-- The entries after puts. -/
def putsE (l : List Ent) : List Ent := l.foldl (fun a x => if wordT x.word = true then putE a (bare x) else a) []
theorem fold_all : ∀ (l : List Ent) (t : Tr), (l.foldl putT t).all [] = l.foldl (fun a x => if wordT x.word = true then putE a (bare x) else a) (t.all [])
  | [], _ => rfl
  | x :: l, t => by
    rw [List.foldl_cons, List.foldl_cons, fold_all l]
    congr 1
    unfold putT
    split
    · rw [Tr.all_put, bare_said]
    · rfl
theorem newT_all (l : List Ent) : (newT l).all [] = putsE l := fold_all l .nil
theorem fold_good : ∀ (l : List Ent) (t : Tr), t.Good → (l.foldl putT t).Good
  | [], _, h => h
  | x :: l, t, h => by
    rw [List.foldl_cons]
    refine fold_good l _ ?_
    unfold putT
    split
    · exact Tr.Good.put _ _ _ h
    · exact h
theorem newT_good (l : List Ent) : (newT l).Good := fold_good l .nil trivial

/-- The bytes that lead on behind a row. -/
def keysL (L : List Ent) (s : List UInt8) : List UInt8 := bytes256.filter fun b => !(underT L (s ++ [b])).isEmpty
theorem keys_down {t : Tr} (h : t.Good) (s : List UInt8) : (t.down s).keys = keysL (t.all []) s := by
  unfold Tr.keys keysL
  congr 1
  funext b
  rw [← Tr.Good.is h (s ++ [b]), Tr.down_append]
  rfl
theorem keys_root (t : Tr) : t.root.keys = t.keys := by
  unfold Tr.keys
  congr 1
  funext b
  rw [Tr.root_way]
theorem get_find {t : Tr} (c : List UInt8) : t.get c = (findE (t.all []) c).map fun x => (x.weight, x.gone) := by
  rw [Tr.find_all]; cases t.get c <;> rfl

/-- The chapter's entries, and what they make. -/
def exL : List Ent := [⟨⟨#[116, 101, 97]⟩, 3, false⟩, ⟨⟨#[116, 101, 110]⟩, 4, false⟩, ⟨⟨#[116, 111]⟩, 1, false⟩, ⟨⟨#[116, 101, 97]⟩, 0, true⟩, ⟨⟨#[105, 110, 110]⟩, 9, false⟩]
def exA : List Ent := [⟨⟨#[105, 110, 110]⟩, 9, false⟩, ⟨⟨#[116, 101, 97]⟩, 0, true⟩, ⟨⟨#[116, 101, 110]⟩, 4, false⟩, ⟨⟨#[116, 111]⟩, 1, false⟩]
theorem exL_puts : putsE exL = exA := by kernel_rfl
def exT : Tr := newT exL
theorem exT_all : exT.all [] = exA := (newT_all exL).trans exL_puts
theorem exT_good : exT.Good := newT_good exL
theorem exT_fit : Fit exT := newT_fit (by decide)
theorem exT_root : exT.root.keys = [105, 116] := by
  rw [keys_root, show exT.keys = (exT.down []).keys from rfl, keys_down exT_good, exT_all]
  kernel_rfl
theorem exT_t : (exT.down [116]).keys = [101, 111] := by
  rw [keys_down exT_good, exT_all]
  kernel_rfl
theorem exT_t_is : (exT.way 116).isNil = false := by
  have := Tr.Good.is exT_good [116]
  rw [exT_all, show (underT exA [116]).isEmpty = false by kernel_rfl] at this
  exact this
theorem exT_te_is : ((exT.way 116).way 101).isNil = false := by
  have := Tr.Good.is exT_good [116, 101]
  rw [exT_all, show (underT exA [116, 101]).isEmpty = false by kernel_rfl] at this
  exact this
theorem exT_te : ((exT.way 116).way 101).val = none := by
  have := get_find (t := exT) [116, 101]
  rw [exT_all, show (findE exA [116, 101]) = none by kernel_rfl] at this
  exact this
theorem exT_under : underT (exT.all []) [116, 101] = [⟨⟨#[116, 101, 97]⟩, 0, true⟩, ⟨⟨#[116, 101, 110]⟩, 4, false⟩] := by
  rw [exT_all]; kernel_rfl
theorem exT_size : sizeE (exT.all []) = 43 := by rw [exT_all]; kernel_rfl
theorem exT_len : (exT.all []).length = 4 := by rw [exT_all]; rfl
end Go.Proofs.Ytclaadiclgfbmaa
namespace Go.Proofs.Ytclaadiclgfbmaa
open Go.RowKit Go.Shelf

set_option maxRecDepth 100000 in
set_option maxHeartbeats 1000000 in
theorem of_any (s : ByteArray) (n : Nat) (w : World) : Calls Try.prog 32 #[.string s, .int .u32 (n : Int)] w fun e w' => e = .returned (.agg #[.string s, .int .u32 (n : Int), .bool false]) ∧ Below w.heap.size w w' := by
  go_enter Try.func32, Try.ntmps32
  go_wp2
  exact bodyPost_ret (v := .agg #[.string s, .int .u32 (n : Int), .bool false]) (by simp [results, Try.results32, go_sem]) rfl ⟨rfl, below_alloc _ _⟩

set_option maxRecDepth 100000 in
set_option maxHeartbeats 1000000 in
theorem gone_any (s : ByteArray) (w : World) : Calls Try.prog 33 #[.string s] w fun e w' => e = .returned (.agg #[.string s, .int .u32 0, .bool true]) ∧ Below w.heap.size w w' := by
  go_enter Try.func33, Try.ntmps33
  go_wp2
  exact bodyPost_ret (v := .agg #[.string s, .int .u32 0, .bool true]) (by simp [results, Try.results33, go_sem]) rfl ⟨rfl, below_alloc _ _⟩

theorem new_ex (l : List Ent) (v : Value) (w : World) (hv : Ents w v l) (hl : l.length ≤ 45) (hs : ∀ x ∈ l, x.word.size ≤ 1000) :
    Calls Try.prog 15 #[v] w fun e w' => ∃ T, e = .returned (.pointer (some ⟨T, 0, none⟩)) ∧ TrieAt w' T (fun k => k ≠ T) (newT l) ∧ Below w.heap.size w w' := by
  refine (new_any l v w hv hl hs).mono ?_
  rintro e w' ⟨rfl, h1, h2⟩
  exact ⟨_, rfl, h1, h2⟩

set_option maxRecDepth 100000 in
set_option maxHeartbeats 1000000 in
theorem example_any (w : World) : Calls Try.prog 87 #[] w fun e w' => ∃ T, e = .returned (.pointer (some ⟨T, 0, none⟩)) ∧ TrieAt w' T (fun k => k ≠ T) exT ∧ Below w.heap.size w w' := by
  have HB := Lib.hid (Below.refl w.heap.size w)
  have QN := Lib.hid (fun (W : World) (g : Nat) (hg : g = W.heap.size) => new_ex exL (.slice (some ⟨g, 0, none⟩) 5 5) _ (by subst hg; exact ents_lit exL W) (by decide) (by decide))
  have q1 := fun (W : World) => of_any ⟨#[116, 101, 97]⟩ 3 W
  have q2 := fun (W : World) => of_any ⟨#[116, 101, 110]⟩ 4 W
  have q3 := fun (W : World) => of_any ⟨#[116, 111]⟩ 1 W
  have q4 := fun (W : World) => gone_any ⟨#[116, 101, 97]⟩ W
  have q5 := fun (W : World) => of_any ⟨#[105, 110, 110]⟩ 9 W
  go_enter Try.func87, Try.ntmps87
  go_wp2_with (first
    | (go_at_call 32; (first
        | (with_reducible refine Calls.mono (q1 _) ?_)
        | (with_reducible refine Calls.mono (q2 _) ?_)
        | (with_reducible refine Calls.mono (q3 _) ?_)
        | (with_reducible refine Calls.mono (q5 _) ?_)); rintro e wk ⟨rfl, hb⟩; replace HB := Lib.hid (Below.next HB.out hb); clear hb)
    | (go_at_call 33; (with_reducible refine Calls.mono (q4 _) ?_); rintro e wk ⟨rfl, hb⟩; replace HB := Lib.hid (Below.next HB.out hb); clear hb))
  refine (QN.out wk wk.heap.size rfl).mono ?_
  rintro e wn ⟨T, rfl, hT, hb⟩
  have H := Lib.hid (And.intro hT hb)
  clear hT hb
  go_wp2
  go_ret
  refine ⟨T, rfl, H.out.1, Below.next ?_ H.out.2⟩
  have h := HB.out
  exact h.alloc h.size _

/-- A row of bytes as a text. -/
theorem row_str {w : World} {base : Nat} {v : Value} {l : List UInt8} (h : w.ownsRow base 5 1 v l.length (l.map enc8)) : (convert 58 9 v).run Try.prog w = .ok (.string ⟨l.toArray⟩) w := conv_str (brow_of_owns h)

set_option maxRecDepth 100000 in
set_option maxHeartbeats 2000000 in
theorem works_any (w : World) : Calls Try.prog 28 #[] w fun e w' => e = .returned (.bool true) ∧ Below w.heap.size w w' := by
  have q44 := example_any w
  go_enter Try.func28, Try.ntmps28
  go_wp2_with (go_at_call 87; (with_reducible refine q44.mono ?_); rintro e w1 ⟨T, rfl, hT, hb⟩; have HB := Lib.hid hb; have HT := Lib.hid (fun (W : World) (h : Below w1.heap.size w1 W) => hT.below h); have q23 := root_at hT; clear hb hT)
  refine q23.mono ?_
  rintro e w2 ⟨q0, rfl, hN0, hb2⟩
  have HN0 := Lib.hid hN0
  have HB2 := Lib.hid hb2
  have S1 : Hid (∀ W, Below w2.heap.size w2 W → Calls Try.prog 88 #[.agg #[.pointer (some ⟨q0, 0, none⟩)], .int .u8 116] W fun e w' => ∃ q1, e = .returned (.tuple #[.agg #[.pointer (some ⟨q1, 0, none⟩)], .bool true]) ∧ NodeO (fun _ => True) w' (exT.way 116) (some q1) ∧ Below W.heap.size W w') := Lib.hid (fun W hb => by
    refine (step_some (HN0.out.below hb) 116).mono ?_
    rintro e w' ⟨p', rfl, h1, h2⟩
    rw [Tr.root_way] at h1
    have h3 := h1.isSome
    rw [exT_t_is] at h3
    cases p' with
    | none => cases h3
    | some q1 => exact ⟨q1, by rw [Tr.root_way, exT_t_is]; rfl, h1.all, h2⟩)
  clear hN0 hb2
  have S2 : Hid (∀ w3 q1, NodeO (fun _ => True) w3 (exT.way 116) (some q1) → ∀ W, Below w3.heap.size w3 W → Calls Try.prog 88 #[.agg #[.pointer (some ⟨q1, 0, none⟩)], .int .u8 101] W fun e w' => ∃ q2, e = .returned (.tuple #[.agg #[.pointer (some ⟨q2, 0, none⟩)], .bool true]) ∧ NodeO (fun _ => True) w' ((exT.way 116).way 101) (some q2) ∧ Below W.heap.size W w') := Lib.hid (fun w3 q1 hN W hb => by
    refine (step_some (hN.below hb) 101).mono ?_
    rintro e w' ⟨p', rfl, h1, h2⟩
    have h3 := h1.isSome
    rw [exT_te_is] at h3
    cases p' with
    | none => cases h3
    | some q1 => exact ⟨q1, by rw [exT_te_is]; rfl, h1, h2⟩)
  have V2 : Hid (∀ w4 q2, NodeO (fun _ => True) w4 ((exT.way 116).way 101) (some q2) → ∀ W, Below w4.heap.size w4 W → Calls Try.prog 85 #[.agg #[.pointer (some ⟨q2, 0, none⟩)]] W fun e w' => e = .returned (.tuple #[.int .u32 0, .bool false, .bool false]) ∧ Below W.heap.size W w') := Lib.hid (fun w4 q2 hN W hb => by
    have h := value_some (hN.below hb)
    rw [exT_te] at h
    exact h)
  go_upto_region 6 with (first
    | (go_at_call 88; (with_reducible refine Calls.mono (S1.out _ (below_alloc _ _)) ?_); rintro e w3 ⟨q1, rfl, hN3, hb3⟩; obtain ⟨hc3, hf3⟩ := bcell hb3; have z3 : w2.heap.size < w3.heap.size := (by have := hb3.size; simp at this; omega); have HN3 := Lib.hid (And.intro hN3 hb3); clear hN3 hb3)
    | (go_at_call 88; (with_reducible refine Calls.mono (S2.out _ _ HN3.out.1 _ (below_alloc _ _)) ?_); rintro e w4 ⟨q2, rfl, hN4, hb4⟩; obtain ⟨hc4, hf4⟩ := bcell hb4; have z4 : w3.heap.size < w4.heap.size := (by have := hb4.size; simp at this; omega); have z4' : w2.heap.size < w4.heap.size := (by omega); have HN4 := Lib.hid (And.intro hN4 hb4); clear hN4 hb4)
    | (go_at_call 85; (with_reducible refine Calls.mono (V2.out _ _ HN4.out.1 _ (below_alloc _ _)) ?_); rintro e w5 ⟨rfl, hb5⟩; have HB5 := Lib.hid hb5; clear hb5))
  have hb3 := HN3.out.2
  have hb4 := HN4.out.2
  have b23 : Below w2.heap.size w2 w3 := Below.next (below_alloc _ _) hb3
  have b34 : Below w3.heap.size w3 w4 := Below.next (below_alloc _ _) hb4
  have b45 : Below w4.heap.size w4 w5 := Below.next (below_alloc _ _) HB5.out
  have b35 : Below w3.heap.size w3 w5 := b34.trans (b45.mono b34.size)
  have b25 : Below w2.heap.size w2 w5 := b23.trans (b35.mono b23.size)
  have b15 : Below w1.heap.size w1 w5 := HB2.out.trans (b25.mono HB2.out.size)
  have x2 : Boxed w5 w2.heap.size 49 (.pointer (some ⟨q0, 0, none⟩)) := boxed_below (boxed_below (Boxed.new w2 49 _) hb3) b35
  have x3 : Boxed w5 w3.heap.size 49 (.pointer (some ⟨q1, 0, none⟩)) := boxed_below (boxed_below (Boxed.new w3 49 _) hb4) b45
  have CB : Hid (∀ W, Below w5.heap.size w5 W → W.cell? ⟨w2.heap.size, 0, none⟩ = some (.pointer (some ⟨q0, 0, none⟩)) ∧ W.cell? ⟨w3.heap.size, 0, none⟩ = some (.pointer (some ⟨q1, 0, none⟩))) := Lib.hid fun W h => ⟨(boxed_below x2 h).cell, (boxed_below x3 h).cell⟩
  have TT : ∀ W, Below w5.heap.size w5 W → TrieAt W T (fun k => k ≠ T) exT := fun W h => HT.out W (b15.trans (h.mono b15.size))
  have QL : Hid (∀ W, Below w5.heap.size w5 W → Calls Try.prog 18 #[.pointer (some ⟨T, 0, none⟩)] W fun e w' => e = .returned (.int .i64 4) ∧ W = w') := Lib.hid fun W h => by
    have := len_at (TT W h)
    rw [exT_len] at this
    exact this
  have QZ : Hid (∀ W, Below w5.heap.size w5 W → Calls Try.prog 19 #[.pointer (some ⟨T, 0, none⟩)] W fun e w' => e = .returned (.int .i64 43) ∧ Below W.heap.size W w') := Lib.hid fun W h => by
    have := size_at (TT W h) exT_fit
    rw [exT_size] at this
    exact this
  have QA : Hid (∀ W, Below w5.heap.size w5 W → Calls Try.prog 22 #[.pointer (some ⟨T, 0, none⟩)] W fun e w' => ∃ v, e = .returned v ∧ Ents w' v exA ∧ Below W.heap.size W w') := Lib.hid fun W h => by
    refine (all_at (TT W h) exT_fit).mono ?_
    rintro e w' ⟨v, rfl, ho, hb⟩
    rw [exT_all] at ho
    exact ⟨v, rfl, ents_of_owns ho, hb⟩
  have QU : Hid (∀ W, Below w5.heap.size w5 W → Calls Try.prog 25 #[.pointer (some ⟨T, 0, none⟩), .string ⟨#[116, 101]⟩] W fun e w' => ∃ v, e = .returned v ∧ Ents w' v [⟨⟨#[116, 101, 97]⟩, 0, true⟩, ⟨⟨#[116, 101, 110]⟩, 4, false⟩] ∧ Below W.heap.size W w') := Lib.hid fun W h => by
    refine (under_at (TT W h) exT_fit ⟨#[116, 101]⟩ (by decide)).mono ?_
    rintro e w' ⟨v, rfl, ho, hb⟩
    rw [show (⟨#[116, 101]⟩ : ByteArray).data.toList = [116, 101] from rfl, exT_under] at ho
    exact ⟨v, rfl, ents_of_owns ho, hb⟩
  have QB : Hid (∀ W, Below w5.heap.size w5 W → Calls Try.prog 36 #[.agg #[.pointer (some ⟨q0, 0, none⟩)]] W fun e w' => ∃ v, e = .returned v ∧ (convert 58 9 v).run Try.prog w' = .ok (.string ⟨#[105, 116]⟩) w' ∧ Below W.heap.size W w') := Lib.hid fun W h => by
    have hn := (HN0.out.below b25).below h
    refine (bytes_some hn (by rw [exT_root]; decide)).mono ?_
    rintro e w' ⟨v, rfl, ho, hb⟩
    rw [exT_root] at ho
    exact ⟨v, rfl, row_str ho, hb⟩
  have QC : Hid (∀ W, Below w5.heap.size w5 W → Calls Try.prog 36 #[.agg #[.pointer (some ⟨q1, 0, none⟩)]] W fun e w' => ∃ v, e = .returned v ∧ (convert 58 9 v).run Try.prog w' = .ok (.string ⟨#[101, 111]⟩) w' ∧ Below W.heap.size W w') := Lib.hid fun W h => by
    have hn := (HN3.out.1.below b35).below h
    have e1 : (exT.way 116).keys = [101, 111] := exT_t
    refine (bytes_some hn (by rw [e1]; decide)).mono ?_
    rintro e w' ⟨v, rfl, ho, hb⟩
    rw [e1] at ho
    exact ⟨v, rfl, row_str ho, hb⟩
  have QP := fun W => put_bad T ⟨⟨#[]⟩, 0, false⟩ W (by rfl) (by decide)
  have o1 := fun (W : World) => of_any ⟨#[105, 110, 110]⟩ 9 W
  have o2 := fun (W : World) => gone_any ⟨#[116, 101, 97]⟩ W
  have o3 := fun (W : World) => of_any ⟨#[116, 101, 110]⟩ 4 W
  have o4 := fun (W : World) => of_any ⟨#[116, 111]⟩ 1 W
  have HBw : Hid (Below w.heap.size w w5) := Lib.hid (HB.out.trans (b15.mono HB.out.size))
  have HB := Lib.hid (Below.refl w5.heap.size w5)
  clear hc3 hf3 hc4 hf4 z3 z4 z4' hb3 hb4 b23 b34 b45 b35 b25 b15 x2 x3 TT
  go_wp2_with (first
    | (go_at_call 18; (with_reducible refine Calls.mono (QL.out _ HB.out) ?_); rintro e wl ⟨rfl, rfl⟩)
    | (go_at_call 19; (with_reducible refine Calls.mono (QZ.out _ HB.out) ?_); rintro e wk ⟨rfl, hb⟩; replace HB := Lib.hid (Below.next HB.out hb); clear hb)
    | (go_at_call 22; (with_reducible refine Calls.mono (QA.out _ HB.out) ?_); rintro e wk ⟨va, rfl, hE, hb⟩; replace HB := Lib.hid (Below.next HB.out hb); have HA := Lib.hid hE; clear hb hE)
    | (go_at_call 25; (with_reducible refine Calls.mono (QU.out _ HB.out) ?_); rintro e wk ⟨va, rfl, hE, hb⟩; replace HB := Lib.hid (Below.next HB.out hb); have HA := Lib.hid hE; clear hb hE)
    | (go_at_call 32; (first
        | (with_reducible refine Calls.mono (o1 _) ?_)
        | (with_reducible refine Calls.mono (o3 _) ?_)
        | (with_reducible refine Calls.mono (o4 _) ?_)); rintro e wk ⟨rfl, hb⟩; replace HB := Lib.hid (Below.next HB.out hb); replace HA := Lib.hid (HA.out.below hb); clear hb)
    | (go_at_call 33; (with_reducible refine Calls.mono (o2 _) ?_); rintro e wk ⟨rfl, hb⟩; replace HB := Lib.hid (Below.next HB.out hb); replace HA := Lib.hid (HA.out.below hb); clear hb)
    | (go_at_call 21; (first
        | (refine Calls.mono (same_true exA _ _ _ (HA.out.below (below_alloc _ _)) (ents_lit exA _) (by decide)) ?_)
        | (refine Calls.mono (same_true [⟨⟨#[116, 101, 97]⟩, 0, true⟩, ⟨⟨#[116, 101, 110]⟩, 4, false⟩] _ _ _ (HA.out.below (below_alloc _ _)) (ents_lit [⟨⟨#[116, 101, 97]⟩, 0, true⟩, ⟨⟨#[116, 101, 110]⟩, 4, false⟩] _) (by decide)) ?_)); rintro e wk ⟨rfl, hb⟩; replace HB := Lib.hid (Below.next (below_alloc' HB.out) hb); obtain ⟨cb2, cb3⟩ := CB.out _ HB.out; clear hb)
    | (go_at_call 36; (first
        | (with_reducible refine Calls.mono (QB.out _ HB.out) ?_)
        | (with_reducible refine Calls.mono (QC.out _ HB.out) ?_)); rintro e wk ⟨vb, rfl, hcv, hb⟩; replace HB := Lib.hid (Below.next HB.out hb); obtain ⟨cb2, cb3⟩ := CB.out _ HB.out; clear hb)
    | (go_at_call 16; (with_reducible refine Calls.mono (QP _) ?_); rintro e wk ⟨rfl, hb⟩; replace HB := Lib.hid (Below.next HB.out hb); clear hb))
  go_ret
  exact ⟨rfl, Below.next HBw.out HB.out⟩
end Go.Proofs.Ytclaadiclgfbmaa
namespace Go.Proofs.Ytclaadiclgfbmaa
open Go.RowKit Go.Shelf

set_option maxRecDepth 100000 in
set_option maxHeartbeats 1000000 in
theorem root_nilp (w : World) : Calls Try.prog 30 #[.pointer none] w fun e w' => e = .returned (.agg #[.pointer none]) ∧ Below w.heap.size w w' := by
  go_enter Try.func30, Try.ntmps30
  go_wp2
  exact bodyPost_ret (v := .agg #[.pointer none]) (by simp [results, Try.results30, go_sem]) rfl ⟨rfl, below_alloc _ _⟩

set_option maxRecDepth 100000 in
set_option maxHeartbeats 1000000 in
theorem get_nilp (s : ByteArray) (w : World) : Calls Try.prog 23 #[.pointer none, .string s] w fun e w' => e = .returned (.tuple #[.agg #[.string ⟨#[]⟩, .int .u32 0, .bool false], .bool false]) ∧ Below w.heap.size w w' := by
  go_enter Try.func23, Try.ntmps23
  go_wp2
  exact bodyPost_ret (v := .tuple #[.agg #[.string ⟨#[]⟩, .int .u32 0, .bool false], .bool false]) (by simp [results, Try.results23, go_sem]) rfl ⟨rfl, below_alloc _ _⟩

set_option maxRecDepth 100000 in
set_option maxHeartbeats 1000000 in
theorem put_nilp (s : ByteArray) (n : Int) (b : Bool) (w : World) : Calls Try.prog 16 #[.pointer none, .agg #[.string s, .int .u32 n, .bool b]] w fun e w' => e = .returned (.int .i64 1) ∧ Below w.heap.size w w' := by
  go_enter Try.func16, Try.ntmps16
  go_wp2
  go_ret
  exact ⟨rfl, below_alloc _ _⟩

set_option maxHeartbeats 1000000 in
theorem len_nilp (w : World) : Calls Try.prog 18 #[.pointer none] w fun e w' => e = .returned (.int .i64 0) ∧ Below w.heap.size w w' := by
  go_enter Try.func18, Try.ntmps18
  go_wp2
  go_ret
  exact ⟨rfl, Below.refl _ _⟩
set_option maxHeartbeats 1000000 in
theorem size_nilp (w : World) : Calls Try.prog 19 #[.pointer none] w fun e w' => e = .returned (.int .i64 0) ∧ Below w.heap.size w w' := by
  go_enter Try.func19, Try.ntmps19
  go_wp2
  go_ret
  exact ⟨rfl, Below.refl _ _⟩
set_option maxHeartbeats 1000000 in
theorem copy_nilp (w : World) : Calls Try.prog 31 #[.pointer none] w fun e w' => e = .returned (.pointer none) ∧ Below w.heap.size w w' := by
  go_enter Try.func31, Try.ntmps31
  go_wp2
  go_ret
  exact ⟨rfl, Below.refl _ _⟩
set_option maxHeartbeats 1000000 in
theorem under_nilp (s : ByteArray) (w : World) : Calls Try.prog 25 #[.pointer none, .string s] w fun e w' => e = .returned (.slice none 0 0) ∧ Below w.heap.size w w' := by
  go_enter Try.func25, Try.ntmps25
  go_wp2
  go_ret
  exact ⟨rfl, Below.refl _ _⟩
set_option maxHeartbeats 1000000 in
theorem all_nilp (w : World) : Calls Try.prog 22 #[.pointer none] w fun e w' => e = .returned (.slice none 0 0) ∧ Below w.heap.size w w' := by
  have q := under_nilp ⟨#[]⟩ w
  go_enter Try.func22, Try.ntmps22
  go_wp2_with (go_at_call 25; (with_reducible refine q.mono ?_); rintro e w1 ⟨rfl, hb⟩)
  go_ret
  exact ⟨rfl, hb⟩

def knL : List Ent := [⟨⟨#[97]⟩, 1, false⟩, ⟨⟨#[97, 98]⟩, 2, false⟩, ⟨⟨#[97]⟩, 7, false⟩, ⟨⟨#[255, 0]⟩, 3, false⟩, ⟨⟨#[98]⟩, 5, true⟩, ⟨⟨#[]⟩, 0, false⟩]
def knA : List Ent := [⟨⟨#[97]⟩, 7, false⟩, ⟨⟨#[97, 98]⟩, 2, false⟩, ⟨⟨#[98]⟩, 0, true⟩, ⟨⟨#[255, 0]⟩, 3, false⟩]
theorem knL_puts : putsE knL = knA := by kernel_rfl
def knT : Tr := newT knL
theorem knT_all : knT.all [] = knA := (newT_all knL).trans knL_puts
theorem knT_good : knT.Good := newT_good knL
theorem knT_fit : Fit knT := newT_fit (by decide)
theorem knT_get (s : List UInt8) : knT.get s = (findE knA s).map fun x => (x.weight, x.gone) := by rw [get_find, knT_all]
theorem knT_is (s : List UInt8) : (knT.down s).isNil = (underT knA s).isEmpty := by rw [Tr.Good.is knT_good s, knT_all]
theorem knT_keys (s : List UInt8) : (knT.down s).keys = keysL knA s := by rw [keys_down knT_good, knT_all]
theorem kn_a : knT.get [97] = some (7, false) := by rw [knT_get]; kernel_rfl
theorem kn_b : knT.get [98] = some (0, true) := by rw [knT_get]; kernel_rfl
theorem kn_ac : knT.get [97, 99] = none := by rw [knT_get]; kernel_rfl
theorem kn_ab : knT.get [97, 98] = some (2, false) := by rw [knT_get]; kernel_rfl
theorem kn_e : knT.get [] = none := by rw [knT_get]; kernel_rfl
theorem kn_a_is : (knT.way 97).isNil = false := (knT_is [97]).trans (by kernel_rfl)
theorem kn_ab_is : ((knT.way 97).way 98).isNil = false := (knT_is [97, 98]).trans (by kernel_rfl)
theorem kn_abc_is : (((knT.way 97).way 98).way 99).isNil = true := (knT_is [97, 98, 99]).trans (by kernel_rfl)
theorem kn_ab_keys : ((knT.way 97).way 98).keys = [] := (knT_keys [97, 98]).trans (by kernel_rfl)
theorem kn_root_keys : knT.root.keys = [97, 98, 255] := (keys_root knT).trans ((knT_keys []).trans (by kernel_rfl))
theorem kn_under0 : (underT (knT.all []) []).length = 4 := by rw [knT_all]; kernel_rfl
theorem kn_under3 : (underT (knT.all []) [97, 98, 99]).length = 0 := by rw [knT_all]; kernel_rfl
theorem kn_under1 : (underT (knT.all []) [97]).length = 2 := by rw [knT_all]; kernel_rfl
theorem kn_len : (knT.all []).length = 4 := by rw [knT_all]; rfl

theorem root_val' (t : Tr) : t.root.val = t.get [] := by rw [Tr.root_val]; rfl
end Go.Proofs.Ytclaadiclgfbmaa
namespace Go.Proofs.Ytclaadiclgfbmaa
open Go.RowKit Go.Shelf

/-- An entry with its word cut to three hundred bytes. -/
def cutE (e : Ent) : Ent := ⟨e.word.extract 0 (min e.word.size 300), e.weight, e.gone⟩
def fewE (l : List Ent) : List Ent := (l.take 40).map cutE
theorem fewE_take (l : List Ent) (k : Nat) (h : k < l.length) (h2 : k < 40) : fewE (l.take (k + 1)) = fewE (l.take k) ++ [cutE (ent l k)] := by
  unfold fewE
  rw [List.take_take, List.take_take, Nat.min_eq_right (by omega), Nat.min_eq_right (by omega), List.take_succ_eq_append_getElem h, List.map_append, ent_lt h]
  rfl
theorem fewE_length (l : List Ent) : (fewE l).length ≤ 40 := by unfold fewE; rw [List.length_map]; exact List.length_take_le _ _
theorem cutE_size (e : Ent) : (cutE e).word.size ≤ 300 := by
  show (e.word.extract 0 (min e.word.size 300)).size ≤ 300
  rw [ByteArray.size_extract]; omega
theorem fewE_short (l : List Ent) : ∀ x ∈ fewE l, x.word.size ≤ 300 := by
  intro x hx
  obtain ⟨y, _, rfl⟩ := List.mem_map.1 hx
  exact cutE_size y

set_option maxHeartbeats 1000000 in
set_option maxRecDepth 100000 in
theorem few_any (l : List Ent) (v : Value) (w : World) (hv : Ents w v l) (hlen : l.length ≤ 9223372036854775807) (hs : ∀ x ∈ l, x.word.size ≤ 9223372036854775807) :
    Calls Try.prog 14 #[v] w fun e w' => ∃ v', e = .returned v' ∧ w'.ownsRow w.heap.size 33 3 v' (fewE l).length (ents (fewE l)) ∧ Below w.heap.size w w' := by
  obtain ⟨ad, cp, rfl, hc⟩ := ents_cell hv
  have HC : Hid (∀ i, i < l.length → ∃ b o, ad = some ⟨b, o, none⟩ ∧ EntAt w b (o + i * 3) (ent l i)) := Lib.hid hc
  clear hc hv
  go_enter Try.func14, Try.ntmps14
  go_wp2
  go_loopw [3, 4] (fun s3 s4 wr => ∃ k : Nat, k ≤ l.length ∧ k ≤ 40 ∧ s4 = .int .i64 k ∧ wr.ownsRow w.heap.size 33 3 s3 (fewE (l.take k)).length (ents (fewE (l.take k))) ∧ Below w.heap.size w wr) (fun _ s4 _ => l.length - (intOf s4).toNat)
  case atStart => exact ⟨0, Nat.zero_le _, Nat.zero_le _, rfl, ownsE_nil w _, Below.refl _ _⟩
  case round =>
    obtain ⟨k, hk, hk40, rfl, hown, hb⟩ := hrel
    by_cases hlt : k < l.length
    · by_cases hl40 : k < 40
      · obtain ⟨b, o, rfl, hE⟩ := HC.out k hlt
        obtain ⟨h1, h2, h3⟩ := hE.below hb
        have hsn := fewE_take l k hlt hl40
        have hle := fewE_length (l.take k)
        have hsz := hs _ (ent_mem hlt)
        obtain ⟨y, hy⟩ : ∃ y, ent l k = y := ⟨_, rfl⟩
        rw [hy] at h1 h2 h3 hsn hsz
        obtain ⟨O, hO⟩ : ∃ O, fewE (l.take k) = O := ⟨_, rfl⟩
        rw [hO] at hsn hown hle
        have hn : b ≠ wr.heap.size := Nat.ne_of_lt (block_lt_of_cell h1)
        have hbl : b < wr.heap.size := block_lt_of_cell h1
        have HS := Lib.hid hsn
        have e40 : decide ((k : Int) < 40) = true := decide_eq_true (by omega)
        clear hy hE hO hsn
        have ez : (min (y.word.size : Int) 300).toNat = min y.word.size 300 := by omega
        have hcut : cutE y = ⟨y.word.extract 0 (min (y.word.size : Int) 300).toNat, y.weight, y.gone⟩ := by rw [ez]; rfl
        have hO1 := (hown.alloc (.cells #[.string (y.word.extract 0 (min (y.word.size : Int) 300).toNat), .int .u32 (y.weight : Int), .bool y.gone] 33)).alloc (.cells #[.string (y.word.extract 0 (min (y.word.size : Int) 300).toNat), .int .u32 (y.weight : Int), .bool y.gone] 33)
        have hO2 : Ents ((wr.alloc (.cells #[.string (y.word.extract 0 (min (y.word.size : Int) 300).toNat), .int .u32 (y.weight : Int), .bool y.gone] 33)).alloc (.cells #[.string (y.word.extract 0 (min (y.word.size : Int) 300).toNat), .int .u32 (y.weight : Int), .bool y.gone] 33)) (.slice (some ⟨wr.heap.size + 1, 0, none⟩) 1 1) [cutE y] := by
          rw [hcut]
          exact ents_single (w := wr.alloc (.cells #[.string (y.word.extract 0 (min (y.word.size : Int) 300).toNat), .int .u32 (y.weight : Int), .bool y.gone] 33)) (x := ⟨y.word.extract 0 (min (y.word.size : Int) 300).toNat, y.weight, y.gone⟩) (g := wr.heap.size + 1) (by simp)
        have HO1 := Lib.hid hO1
        have HO2 := Lib.hid hO2
        clear ez hcut hO1 hO2
        go_wp2_with (at_builtin; refine wpList_append_ents rfl _ _ rfl rfl w.heap.size _ _ O [cutE y] rfl rfl HO1.out HO2.out (by simp; omega) (by have := hb.size; simp; omega) ?_; intro v' w' o1 g1)
        exact ⟨⟨k + 1, by omega, by omega, by go_num, by rw [HS.out]; exact o1, (below_alloc' (below_alloc' hb)).grown g1 (by have := hb.size; simp; omega) (fun j hj => (hown.lt j hj).1)⟩, by simp [intOf]; omega⟩
      · have e40 : ¬ (k : Int) < 40 := by omega
        go_wp2
        go_ret
        have e : k = 40 := by omega
        refine ⟨_, rfl, ?_, hb⟩
        have e2 : fewE (l.take k) = fewE l := by unfold fewE; rw [List.take_take, e]; simp
        rw [e2] at hown
        exact hown
    · obtain rfl : k = l.length := by omega
      rw [List.take_length] at hown
      go_wp2
      go_ret
      exact ⟨_, rfl, hown, hb⟩
end Go.Proofs.Ytclaadiclgfbmaa
namespace Go.Proofs.Ytclaadiclgfbmaa
open Go.RowKit Go.Shelf

/-- Step, where a way leads on, or none. -/
theorem law_there {O : Nat → Prop} {w : World} {t : Tr} {q : Nat} (h : NodeO O w t (some q)) (b : UInt8) (hn : (t.way b).isNil = false) :
    Calls Try.prog 88 #[.agg #[.pointer (some ⟨q, 0, none⟩)], .int .u8 (b.toNat : Int)] w fun e w' => ∃ q', e = .returned (.tuple #[.agg #[.pointer (some ⟨q', 0, none⟩)], .bool true]) ∧ NodeO O w' (t.way b) (some q') ∧ Below w.heap.size w w' := by
  refine (step_some h b).mono ?_
  rintro e w' ⟨p', rfl, h1, h2⟩
  have h3 := h1.isSome
  rw [hn] at h3
  cases p' with
  | none => cases h3
  | some q1 => exact ⟨q1, by rw [hn]; rfl, h1, h2⟩
theorem law_gone {O : Nat → Prop} {w : World} {t : Tr} {q : Nat} (h : NodeO O w t (some q)) (b : UInt8) (hn : (t.way b).isNil = true) :
    Calls Try.prog 88 #[.agg #[.pointer (some ⟨q, 0, none⟩)], .int .u8 (b.toNat : Int)] w fun e w' => e = .returned (.tuple #[.agg #[.pointer none], .bool false]) ∧ Below w.heap.size w w' := by
  refine (step_some h b).mono ?_
  rintro e w' ⟨p', rfl, h1, h2⟩
  have h3 := h1.isSome
  rw [hn] at h3
  cases p' with
  | none => exact ⟨by rw [hn]; rfl, h2⟩
  | some q1 => cases h3

theorem law_next {w wr w3 : World} {B4 B6 : Nat} {v u : Value} {t' : Tr} {p : Option Nat} (hb : Below w.heap.size w wr) (h3 : Below wr.heap.size wr w3) (b6 : Boxed w3 B6 49 u) (b4 : Boxed w3 B4 49 (.pointer none)) (hN : NodeO (fun k => k ≠ B4 ∧ k < B6) w3 t' p) (h46 : B4 < B6) (hlow : w.heap.size ≤ B4) (hlt : B6 < wr.heap.size) :
    (Boxed ((w3.setCell ⟨wr.heap.size, 0, none⟩ v).setCell ⟨B6, 0, none⟩ v) B6 49 v ∧ Boxed ((w3.setCell ⟨wr.heap.size, 0, none⟩ v).setCell ⟨B6, 0, none⟩ v) B4 49 (.pointer none) ∧ NodeO (fun k => k ≠ B4 ∧ k < B6) ((w3.setCell ⟨wr.heap.size, 0, none⟩ v).setCell ⟨B6, 0, none⟩ v) t' p ∧ Below w.heap.size w ((w3.setCell ⟨wr.heap.size, 0, none⟩ v).setCell ⟨B6, 0, none⟩ v)) ∧
    (Boxed ((w3.setCell ⟨B6, 0, none⟩ v).alloc (.cells #[v] 49)) B6 49 v ∧ Boxed ((w3.setCell ⟨B6, 0, none⟩ v).alloc (.cells #[v] 49)) B4 49 (.pointer none) ∧ NodeO (fun k => k ≠ B4 ∧ k < B6) ((w3.setCell ⟨B6, 0, none⟩ v).alloc (.cells #[v] 49)) t' p ∧ Below w.heap.size w ((w3.setCell ⟨B6, 0, none⟩ v).alloc (.cells #[v] 49))) ∧
    Below w.heap.size w ((w3.setCell ⟨wr.heap.size, 0, none⟩ v).setCell ⟨B4, 0, none⟩ v) ∧ Below w.heap.size w ((w3.setCell ⟨B4, 0, none⟩ v).alloc (.cells #[v] 49)) := by
  have hz := hb.size
  have hz3 := h3.size
  have h03 : Below w.heap.size w w3 := hb.trans (h3.mono hz)
  have s1 : Below w.heap.size w (w3.setCell ⟨wr.heap.size, 0, none⟩ v) := h03.setCell (p := ⟨wr.heap.size, 0, none⟩) hz v
  have g1 := grownBy_setCell' w3 wr.heap.size v
  have g2 := grownBy_setCell' (w3.setCell ⟨wr.heap.size, 0, none⟩ v) B6 v
  have g3 := grownBy_setCell' w3 B6 v
  have b6' : Boxed (w3.setCell ⟨wr.heap.size, 0, none⟩ v) B6 49 u := b6.kept g1 (fun e => by cases e; omega)
  have b4' : Boxed (w3.setCell ⟨wr.heap.size, 0, none⟩ v) B4 49 (.pointer none) := b4.kept g1 (fun e => by cases e; omega)
  have bo : Below w3.heap.size (w3.setCell ⟨B6, 0, none⟩ v) ((w3.setCell ⟨B6, 0, none⟩ v).alloc (.cells #[v] 49)) := (Below.refl _ _).alloc (by simp [World.setCell]) _
  have z6 : (w3.setCell ⟨B6, 0, none⟩ v).heap.size = w3.heap.size := by simp [World.setCell]
  have z4 : (w3.setCell ⟨B4, 0, none⟩ v).heap.size = w3.heap.size := by simp [World.setCell]
  have s3 : Below w.heap.size w (w3.setCell ⟨B6, 0, none⟩ v) := h03.setCell (p := ⟨B6, 0, none⟩) (by show w.heap.size ≤ B6; omega) v
  refine ⟨⟨b6'.set v, b4'.kept g2 (fun e => by cases e; omega), hN.kept (fun _ h => h) (fun k hk hl => ?_), s1.setCell (p := ⟨B6, 0, none⟩) (by show w.heap.size ≤ B6; omega) v⟩, ⟨boxed_below (b6.set v) (below_alloc _ _), boxed_below (b4.kept g3 (fun e => by cases e; omega)) (below_alloc _ _), hN.kept (fun _ h => h) (fun k hk hl => ?_), below_alloc' s3⟩, s1.setCell (p := ⟨B4, 0, none⟩) hlow v, below_alloc' (h03.setCell (p := ⟨B4, 0, none⟩) hlow v)⟩
  · rw [Below.heap_setCell _ _ _ _ (show k ≠ B6 by have := hk.2; omega), Below.heap_setCell _ _ _ _ (show k ≠ wr.heap.size by have := hk.2; omega)]
  · rw [(below_alloc _ _).block k (by rw [z6]; exact hl), Below.heap_setCell _ _ _ _ (show k ≠ B6 by have := hk.2; omega)]

theorem ba_at (s : ByteArray) (k : Nat) (h : k < s.size) : s.data.toList.take (k + 1) = s.data.toList.take k ++ [s[k]] := take_snoc s k h

set_option maxHeartbeats 2000000 in
set_option maxRecDepth 100000 in
theorem node_any {w : World} {T : Nat} {O : Nat → Prop} {t : Tr} (h : TrieAt w T O t) (s : ByteArray) (hs : s.size ≤ 9223372036854775807) :
    Calls Try.prog 35 #[.pointer (some ⟨T, 0, none⟩), .string s] w fun e w' => ∃ p, e = .returned (.tuple #[nodeV p, .bool (!(t.root.down s.data.toList).isNil)]) ∧ NodeO (fun _ => True) w' (t.root.down s.data.toList) p ∧ Below w.heap.size w w' := by
  have hb0 := below_alloc w (.cells #[.pointer none] 49)
  have h' : TrieAt w T (fun k => O k ∧ k < w.heap.size) t := by
    obtain ⟨p, h1, h2, h3, h4⟩ := h
    exact ⟨p, h1, h2.both, fun e => h3 e.1, h4⟩
  have q23 := root_at (h'.below hb0)
  have hz0 : (w.alloc (.cells #[.pointer none] 49)).heap.size = w.heap.size + 1 := by simp
  have HZ0 := Lib.hid hz0
  have HB0 := Lib.hid hb0
  clear hb0 h h' hz0
  go_enter Try.func35, Try.ntmps35
  go_wp2_with (go_at_call 30; (with_reducible refine q23.mono ?_); rintro e w1 ⟨q0, rfl, hN0, hb1⟩; have HN0 := Lib.hid hN0.both; have HB1 := Lib.hid hb1; clear hN0 hb1)
  obtain ⟨B4, hB4⟩ : ∃ B4, B4 = w.heap.size := ⟨_, rfl⟩
  obtain ⟨B6, hB6⟩ : ∃ B6, B6 = w1.heap.size := ⟨_, rfl⟩
  have z46 : B4 < B6 := by have := HB1.out.size; simp at this; omega
  have START : Hid (Boxed (w1.alloc (.cells #[.pointer (some ⟨q0, 0, none⟩)] 49)) B6 49 (.pointer (some ⟨q0, 0, none⟩)) ∧ Boxed (w1.alloc (.cells #[.pointer (some ⟨q0, 0, none⟩)] 49)) B4 49 (.pointer none) ∧ NodeO (fun k => k ≠ B4 ∧ k < B6) (w1.alloc (.cells #[.pointer (some ⟨q0, 0, none⟩)] 49)) t.root (some q0) ∧ Below w.heap.size w (w1.alloc (.cells #[.pointer (some ⟨q0, 0, none⟩)] 49))) := Lib.hid (by
    subst hB4 hB6
    have hbw : Below w.heap.size w w1 := Below.next HB0.out HB1.out
    exact ⟨Boxed.new w1 _ _, boxed_below (boxed_below (Boxed.new w 49 _) HB1.out) (below_alloc _ _), HN0.out.kept (fun k hk => by
      have h2 := hk.2
      have h1 := hk.1
      rw [Since, HZ0.out] at h1
      exact ⟨by omega, h2⟩) (fun k _ hk => (below_alloc w1 _).block k hk), below_alloc' hbw⟩)
  rw [← hB4, ← hB6]
  have hlow : w.heap.size ≤ B4 := by omega
  generalize w1.alloc (.cells #[.pointer (some ⟨q0, 0, none⟩)] 49) = w2 at START ⊢
  clear hB4 hB6 HN0 HB1 q23
  go_loopw [7] (fun s7 wr => ∃ (k q : Nat), k ≤ s.size ∧ s7 = .int .i64 k ∧ Hid (Boxed wr B6 49 (.pointer (some ⟨q, 0, none⟩)) ∧ Boxed wr B4 49 (.pointer none) ∧ NodeO (fun k => k ≠ B4 ∧ k < B6) wr (t.root.down (s.data.toList.take k)) (some q) ∧ Below w.heap.size w wr)) (fun s7 _ => s.size - (intOf s7).toNat)
  case atStart => exact ⟨0, q0, Nat.zero_le _, rfl, START⟩
  case round =>
    obtain ⟨k, q, hk, rfl, HI⟩ := hrel
    by_cases hlt : k < s.size
    · obtain ⟨b6, b4, hN, hb⟩ := HI.out
      have hdn : t.root.down (s.data.toList.take (k + 1)) = (t.root.down (s.data.toList.take k)).way s[k] := by rw [ba_at s k hlt, Tr.down_append]; rfl
      have CX : Hid (∀ W, Below wr.heap.size wr W → W.cell? ⟨B6, 0, none⟩ = some (.pointer (some ⟨q, 0, none⟩))) := Lib.hid fun W h => (boxed_below b6 h).cell
      have HNk := Lib.hid hN
      have HBk := Lib.hid hb
      have CX4 : Hid (∀ W, Below wr.heap.size wr W → (Boxed W B6 49 (.pointer (some ⟨q, 0, none⟩)) ∧ Boxed W B4 49 (.pointer none))) := Lib.hid fun W h => ⟨boxed_below b6 h, boxed_below b4 h⟩
      have c6 := b6.cell
      have f6 := b6.frozen
      have l6 := b6.lt
      have c4 := b4.cell
      have f4 := b4.frozen
      have l4 := b4.lt
      have n4 : B4 ≠ wr.heap.size := Nat.ne_of_lt l4
      have n6 : B6 ≠ wr.heap.size := Nat.ne_of_lt l6
      have n46 : B4 ≠ B6 := Nat.ne_of_lt z46
      have HD := Lib.hid hdn
      clear b6 b4 hN hb hdn
      cases hw : ((t.root.down (s.data.toList.take k)).way s[k]).isNil with
      | true =>
        have HNIL : Hid ((t.root.down s.data.toList).isNil = true) := Lib.hid (by
          rw [← List.take_append_drop (k + 1) s.data.toList, Tr.down_append, HD.out, Tr.eq_nil hw, Tr.down_nil]; rfl)
        have SK := Lib.hid (fun W (h : Below wr.heap.size wr W) => law_gone (HNk.out.below h) s[k] hw)
        go_wp2
        go_region_held3 (fun W => W.cell? ⟨B6, 0, none⟩ = some (.pointer (some ⟨q, 0, none⟩)) ∧ Below wr.heap.size wr W)
          ((refine (fun hB => ⟨CX.out _ hB, hB⟩ : Below wr.heap.size wr _ → _) ?_; repeat (first | with_reducible exact Below.refl _ _ | (with_reducible refine Below.drew ?_) | (with_reducible apply below_alloc') | (with_reducible apply N1) | (with_reducible refine Below.setCell ?_ (by first | exact Nat.le_refl _ | exact NZ | (simp; omega)) _))))
          ((go_at_call 88; (with_reducible refine Calls.mono (SK.out _ (by repeat (first | with_reducible exact Below.refl _ _ | (with_reducible refine Below.drew ?_) | (with_reducible apply below_alloc')))) ?_); rintro e w3 ⟨rfl, hb3⟩; obtain ⟨hc3, hf3⟩ := bcell hb3; have hw3 : Below wr.heap.size wr w3 := Below.next (by repeat (first | with_reducible exact Below.refl _ _ | (with_reducible refine Below.drew ?_) | (with_reducible apply below_alloc'))) hb3; obtain ⟨x6, x4⟩ := CX4.out _ hw3; have c63 := x6.cell; have f63 := x6.frozen; have c43 := x4.cell; have f43 := x4.frozen; have HW3 := Lib.hid (And.intro hw3 (And.intro x6 x4)); clear hw3 x6 x4; have N1 := fun (h : Below wr.heap.size wr _) => Below.next h hb3; have NZ : wr.heap.size ≤ w3.heap.size := (by have := hb3.size; simp at this; omega); have l43 : B4 < w3.heap.size := (by omega); have l63 : B6 < w3.heap.size := (by omega)))
        all_goals go_wp2
        all_goals
          obtain ⟨k1, k2, k3⟩ := HW3.out
          have hL := law_next (v := .pointer none) (t' := .nil) (p := none) HBk.out k1 k2 k3 rfl z46 hlow l6
          exact bodyPost_ret (v := .tuple #[.agg #[.pointer none], .bool false]) (by simp [results, Try.results35, go_sem, *]) rfl ⟨none, by rw [HNIL.out]; rfl, by rw [Tr.eq_nil HNIL.out]; rfl, by first | exact hL.2.2.1 | exact hL.2.2.2⟩
      | false =>
        have SK := Lib.hid (fun W (h : Below wr.heap.size wr W) => law_there (HNk.out.below h) s[k] hw)
        go_wp2
        go_region_held3 (fun W => W.cell? ⟨B6, 0, none⟩ = some (.pointer (some ⟨q, 0, none⟩)) ∧ Below wr.heap.size wr W)
          ((refine (fun hB => ⟨CX.out _ hB, hB⟩ : Below wr.heap.size wr _ → _) ?_; repeat (first | with_reducible exact Below.refl _ _ | (with_reducible refine Below.drew ?_) | (with_reducible apply below_alloc') | (with_reducible apply N1) | (with_reducible refine Below.setCell ?_ (by first | exact Nat.le_refl _ | exact NZ | (simp; omega)) _))))
          ((go_at_call 88; (with_reducible refine Calls.mono (SK.out _ (by repeat (first | with_reducible exact Below.refl _ _ | (with_reducible refine Below.drew ?_) | (with_reducible apply below_alloc')))) ?_); rintro e w3 ⟨q', rfl, hN3, hb3⟩; obtain ⟨hc3, hf3⟩ := bcell hb3; have hw3 : Below wr.heap.size wr w3 := Below.next (by repeat (first | with_reducible exact Below.refl _ _ | (with_reducible refine Below.drew ?_) | (with_reducible apply below_alloc'))) hb3; obtain ⟨x6, x4⟩ := CX4.out _ hw3; have c63 := x6.cell; have f63 := x6.frozen; have c43 := x4.cell; have f43 := x4.frozen; have HW3 := Lib.hid (And.intro hw3 (And.intro x6 x4)); clear hw3 x6 x4; have N1 := fun (h : Below wr.heap.size wr _) => Below.next h hb3; have NZ : wr.heap.size ≤ w3.heap.size := (by have := hb3.size; simp at this; omega); have l43 : B4 < w3.heap.size := (by omega); have l63 : B6 < w3.heap.size := (by omega)))
        all_goals go_wp2
        all_goals
          obtain ⟨k1, k2, k3⟩ := HW3.out
          have hL := law_next (v := .pointer (some ⟨q', 0, none⟩)) HBk.out k1 k2 k3 hN3 z46 hlow l6
          refine ⟨⟨k + 1, q', by omega, by go_num, Lib.hid (by rw [HD.out]; first | exact hL.1 | exact hL.2.1)⟩, by simp [intOf]; omega⟩
    · obtain ⟨b6, b4, hN, hb⟩ := HI.out
      have e : k = s.size := by omega
      have hn : (t.root.down s.data.toList).isNil = false := by
        have h1 := hN.isSome
        rw [e, show s.data.toList.take s.size = s.data.toList from List.take_of_length_le (by rw [ba_length]; exact Nat.le_refl _)] at h1
        simpa using h1.symm
      have c6 := b6.cell
      have c4 := b4.cell
      have f4 := b4.frozen
      have HH := Lib.hid (And.intro b4 (And.intro hN (And.intro hb hn)))
      clear b6 b4 hN hb hn
      go_wp2
      obtain ⟨b4, hN, hb, hn⟩ := HH.out
      have eAll : s.data.toList.take k = s.data.toList := List.take_of_length_le (by rw [ba_length]; omega)
      rw [eAll] at hN
      exact bodyPost_ret (v := .tuple #[.agg #[.pointer (some ⟨q, 0, none⟩)], .bool true]) (by simp [results, Try.results35, go_sem, *]) rfl ⟨some q, by rw [hn]; rfl, hN.kept (fun _ _ => trivial) (fun k hk _ => Below.heap_setCell _ _ _ _ (show k ≠ B4 from hk.1)), hb.setCell (p := ⟨B4, 0, none⟩) hlow _⟩
end Go.Proofs.Ytclaadiclgfbmaa
namespace Go.Proofs.Ytclaadiclgfbmaa
open Go.RowKit Go.Shelf

theorem under_parts {t : Tr} (b : List UInt8) : underT (t.all []) b = ownT (t.get b) b ++ (t.down b).keys.flatMap fun x => underT (t.all []) (b ++ [x]) := by
  rw [← Tr.all_under]
  cases h : (t.down b).isNil with
  | true =>
    have e := Tr.eq_nil h
    unfold Tr.get
    rw [e]
    rfl
  | false =>
    rw [Tr.all_eq _ _ h]
    refine congrArg _ (flatMap_same _ fun x _ => ?_)
    rw [← Tr.all_under, Tr.down_append]
    rfl

theorem root_is {t : Tr} (hg : t.Good) (b : List UInt8) : (!(t.root.down b).isNil) = (!(underT (t.all []) b).isEmpty || b.isEmpty) := by
  cases b with
  | nil =>
    have : (t.root.down []).isNil = false := Tr.root_nil t
    rw [this]; simp
  | cons x b =>
    rw [Tr.root_down, Tr.Good.is hg]; simp

theorem root_keys_down (t : Tr) (b : List UInt8) : (t.root.down b).keys = (t.down b).keys := by
  cases b with
  | nil => exact keys_root t
  | cons x b => rw [Tr.root_down]

theorem own_get (t : Tr) (s : ByteArray) : ownT (t.get s.data.toList) s.data.toList = if (t.get s.data.toList).isSome = true then [gotE t s] else [] := by
  unfold gotE
  cases h : t.get s.data.toList with
  | none => rfl
  | some y => rfl
end Go.Proofs.Ytclaadiclgfbmaa

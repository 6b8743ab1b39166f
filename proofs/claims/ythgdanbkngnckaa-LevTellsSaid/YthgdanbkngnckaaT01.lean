/-
  The distance of two texts, rows and scripts: plain mathematics. Automata of texts: plain mathematics. Scripts: plain mathematics.
-/
set_option linter.unusedVariables false
set_option linter.unusedSimpArgs false
namespace Go.Proofs.Ythgdanbkngnckaa

def ch (x y : UInt8) : Nat := if x = y then 0 else 1

theorem ch_le (x y : UInt8) : ch x y ≤ 1 := by unfold ch; split <;> omega
theorem ch_self (x : UInt8) : ch x x = 0 := by simp [ch]
theorem ch_comm (x y : UInt8) : ch x y = ch y x := by
  unfold ch
  by_cases h : x = y
  · rw [if_pos h, if_pos h.symm]
  · rw [if_neg h, if_neg (fun e => h e.symm)]

def levCons (x : UInt8) (f : List UInt8 → Nat) (n : Nat) : List UInt8 → Nat
  | [] => n
  | y :: b => min (f b + ch x y) (min (f (y :: b) + 1) (levCons x f n b + 1))

/-- The distance of two texts, by definition. -/
def lev : List UInt8 → List UInt8 → Nat
  | [], b => b.length
  | x :: a, b => levCons x (lev a) (a.length + 1) b

theorem lev_nil (b : List UInt8) : lev [] b = b.length := rfl
theorem lev_to_nil : ∀ a : List UInt8, lev a [] = a.length
  | [] => rfl
  | _ :: _ => rfl
theorem lev_cons (x y : UInt8) (a b : List UInt8) : lev (x :: a) (y :: b) = min (lev a b + ch x y) (min (lev a (y :: b) + 1) (lev (x :: a) b + 1)) := rfl

/-- A way from one text to another, with its number of changes. -/
inductive Ed : List UInt8 → List UInt8 → Nat → Prop
  | nil : Ed [] [] 0
  | both {a b : List UInt8} {n : Nat} (x y : UInt8) : Ed a b n → Ed (x :: a) (y :: b) (n + ch x y)
  | del {a b : List UInt8} {n : Nat} (x : UInt8) : Ed a b n → Ed (x :: a) b (n + 1)
  | ins {a b : List UInt8} {n : Nat} (y : UInt8) : Ed a b n → Ed a (y :: b) (n + 1)

theorem ed_nil : ∀ b : List UInt8, Ed [] b b.length
  | [] => .nil
  | y :: b => .ins y (ed_nil b)
theorem ed_to_nil : ∀ a : List UInt8, Ed a [] a.length
  | [] => .nil
  | y :: b => .del y (ed_to_nil b)

theorem ed_lev : ∀ a b : List UInt8, Ed a b (lev a b)
  | [], b => ed_nil b
  | x :: a, [] => ed_to_nil (x :: a)
  | x :: a, y :: b => by
    rw [lev_cons]
    have h1 := (ed_lev a b).both x y
    have h2 := (ed_lev a (y :: b)).del x
    have h3 := (ed_lev (x :: a) b).ins y
    rcases Nat.le_total (lev a b + ch x y) (min (lev a (y :: b) + 1) (lev (x :: a) b + 1)) with h | h
    · rw [Nat.min_eq_left h]; exact h1
    · rw [Nat.min_eq_right h]
      rcases Nat.le_total (lev a (y :: b) + 1) (lev (x :: a) b + 1) with h' | h'
      · rw [Nat.min_eq_left h']; exact h2
      · rw [Nat.min_eq_right h']; exact h3
termination_by a b => a.length + b.length

theorem lev_both (x y : UInt8) (a b : List UInt8) : lev (x :: a) (y :: b) ≤ lev a b + ch x y := by rw [lev_cons]; omega
theorem lev_del (x : UInt8) (a b : List UInt8) : lev (x :: a) b ≤ lev a b + 1 := by
  cases b with
  | nil => rw [lev_to_nil, lev_to_nil]; simp
  | cons y b => rw [lev_cons]; omega
theorem lev_ins (y : UInt8) (a b : List UInt8) : lev a (y :: b) ≤ lev a b + 1 := by
  cases a with
  | nil => rw [lev_nil, lev_nil]; simp
  | cons x a => rw [lev_cons]; omega

theorem lev_le {a b : List UInt8} {n : Nat} (h : Ed a b n) : lev a b ≤ n := by
  induction h with
  | nil => exact Nat.le_refl _
  | both x y _ ih => exact Nat.le_trans (lev_both x y _ _) (by omega)
  | del x _ ih => exact Nat.le_trans (lev_del x _ _) (by omega)
  | ins y _ ih => exact Nat.le_trans (lev_ins y _ _) (by omega)

theorem Ed.symm {a b : List UInt8} {n : Nat} (h : Ed a b n) : Ed b a n := by
  induction h with
  | nil => exact .nil
  | both x y _ ih => rw [ch_comm]; exact ih.both y x
  | del x _ ih => exact ih.ins x
  | ins y _ ih => exact ih.del y

theorem Ed.append {a b c d : List UInt8} {n m : Nat} (h : Ed a b n) (k : Ed c d m) : Ed (a ++ c) (b ++ d) (n + m) := by
  induction h with
  | nil => rw [Nat.zero_add]; exact k
  | both x y _ ih => rw [show ∀ n : Nat, n + ch x y + m = n + m + ch x y by omega]; exact ih.both x y
  | del x _ ih => rw [show ∀ n : Nat, n + 1 + m = n + m + 1 by omega]; exact ih.del x
  | ins y _ ih => rw [show ∀ n : Nat, n + 1 + m = n + m + 1 by omega]; exact ih.ins y

theorem Ed.reverse {a b : List UInt8} {n : Nat} (h : Ed a b n) : Ed a.reverse b.reverse n := by
  induction h with
  | nil => exact .nil
  | both x y _ ih =>
    rw [List.reverse_cons, List.reverse_cons]
    have := ih.append (Ed.nil.both x y)
    rwa [Nat.zero_add] at this
  | del x _ ih =>
    rw [List.reverse_cons]
    have := ih.append (Ed.nil.del x)
    rwa [List.append_nil, Nat.zero_add] at this
  | ins y _ ih =>
    rw [List.reverse_cons]
    have := ih.append (Ed.nil.ins y)
    rwa [List.append_nil, Nat.zero_add] at this

theorem Ed.trans {a b c : List UInt8} {n m : Nat} (h : Ed a b n) (k : Ed b c m) : ∃ r, r ≤ n + m ∧ Ed a c r := by
  induction h generalizing c m with
  | nil => exact ⟨m, by omega, k⟩
  | @both a b n x y h ih =>
    generalize e : y :: b = L at k
    induction k with
    | nil => cases e
    | both y' z k' _ =>
      cases e
      obtain ⟨r, hr, hd⟩ := ih k'
      refine ⟨r + ch x z, ?_, hd.both x z⟩
      have : ch x z ≤ ch x y + ch y z := by unfold ch; repeat' split
                                            all_goals simp_all
      omega
    | del y' k' _ =>
      cases e
      obtain ⟨r, hr, hd⟩ := ih k'
      exact ⟨r + 1, by omega, hd.del x⟩
    | ins z _ ih' =>
      obtain ⟨r, hr, hd⟩ := ih' e
      exact ⟨r + 1, by omega, hd.ins z⟩
  | del x _ ih =>
    obtain ⟨r, hr, hd⟩ := ih k
    exact ⟨r + 1, by omega, hd.del x⟩
  | @ins a b n y h ih =>
    generalize e : y :: b = L at k
    induction k with
    | nil => cases e
    | both y' z k' _ =>
      cases e
      obtain ⟨r, hr, hd⟩ := ih k'
      exact ⟨r + 1, by omega, hd.ins z⟩
    | del y' k' _ =>
      cases e
      obtain ⟨r, hr, hd⟩ := ih k'
      exact ⟨r, by omega, hd⟩
    | ins z _ ih' =>
      obtain ⟨r, hr, hd⟩ := ih' e
      exact ⟨r + 1, by omega, hd.ins z⟩

theorem lev_tri (a b c : List UInt8) : lev a c ≤ lev a b + lev b c := by
  obtain ⟨r, hr, h⟩ := (ed_lev a b).trans (ed_lev b c)
  exact Nat.le_trans (lev_le h) hr
theorem lev_comm (a b : List UInt8) : lev a b = lev b a := Nat.le_antisymm (lev_le (ed_lev b a).symm) (lev_le (ed_lev a b).symm)
theorem lev_reverse (a b : List UInt8) : lev a.reverse b.reverse = lev a b := by
  refine Nat.le_antisymm (lev_le (ed_lev a b).reverse) ?_
  have := (ed_lev a.reverse b.reverse).reverse
  rw [List.reverse_reverse, List.reverse_reverse] at this
  exact lev_le this
theorem ed_self : ∀ a : List UInt8, Ed a a 0
  | [] => .nil
  | x :: a => by have := (ed_self a).both x x; rwa [ch_self] at this
theorem lev_self (a : List UInt8) : lev a a = 0 := by have := lev_le (ed_self a); omega
theorem Ed.zero {a b : List UInt8} {n : Nat} (h : Ed a b n) (hn : n = 0) : a = b := by
  induction h with
  | nil => rfl
  | both x y _ ih =>
    have h1 : ch x y = 0 := by omega
    have : x = y := by
      unfold ch at h1
      split at h1
      · assumption
      · omega
    rw [ih (by omega), this]
  | del x _ ih => omega
  | ins y _ ih => omega
theorem lev_zero (a b : List UInt8) : lev a b = 0 ↔ a = b := ⟨fun h => (ed_lev a b).zero h, fun h => h ▸ lev_self a⟩
theorem Ed.length {a b : List UInt8} {n : Nat} (h : Ed a b n) : a.length ≤ b.length + n ∧ b.length ≤ a.length + n := by
  induction h with
  | nil => simp
  | both x y _ ih => simp only [List.length_cons]; omega
  | del x _ ih => simp only [List.length_cons]; omega
  | ins y _ ih => simp only [List.length_cons]; omega
theorem lev_length (a b : List UInt8) : a.length ≤ b.length + lev a b ∧ b.length ≤ a.length + lev a b := (ed_lev a b).length
theorem lev_max : ∀ a b : List UInt8, lev a b ≤ max a.length b.length
  | [], b => by simp [lev_nil]
  | x :: a, [] => by simp [lev_to_nil]
  | x :: a, y :: b => by
    have h1 := lev_both x y a b
    have h2 := lev_max a b
    have h3 := ch_le x y
    simp only [List.length_cons]
    omega
theorem lev_front (c : UInt8) (a b : List UInt8) : lev (c :: a) (c :: b) = lev a b := by
  have h1 := lev_cons c c a b
  rw [ch_self] at h1
  have h2 := lev_tri a (c :: b) b
  have h3 := lev_tri a (c :: a) b
  have h4 : lev (c :: b) b ≤ 1 := by have := lev_del c b b; rw [lev_self] at this; exact this
  have h5 : lev a (c :: a) ≤ 1 := by have := lev_ins c a a; rw [lev_self] at this; exact this
  omega
theorem lev_behind (c : UInt8) (a b : List UInt8) : lev (a ++ [c]) (b ++ [c]) = lev a b := by
  rw [← lev_reverse, List.reverse_append, List.reverse_append, List.reverse_cons, List.reverse_nil, List.nil_append]
  show lev (c :: a.reverse) (c :: b.reverse) = _
  rw [lev_front, lev_reverse]
theorem lev_snoc (x y : UInt8) (a b : List UInt8) : lev (a ++ [x]) (b ++ [y]) = min (lev a b + ch x y) (min (lev a (b ++ [y]) + 1) (lev (a ++ [x]) b + 1)) := by
  rw [← lev_reverse, ← lev_reverse a b, ← lev_reverse a (b ++ [y]), ← lev_reverse (a ++ [x]) b]
  simp only [List.reverse_append, List.reverse_cons, List.reverse_nil, List.nil_append]
  exact lev_cons x y _ _
theorem ed_app (a b c : List UInt8) (n : Nat) (h : Ed b c n) : Ed (a ++ b) (a ++ c) n := by
  have := (ed_self a).append h
  rwa [Nat.zero_add] at this
theorem ed_app' (a b c : List UInt8) (n : Nat) (h : Ed b c n) : Ed (b ++ a) (c ++ a) n := h.append (ed_self a)

/-- A byte that is put in, taken out, or made another one. -/
theorem lev_put (a b : List UInt8) (c : UInt8) : lev (a ++ [c] ++ b) (a ++ b) ≤ 1 := by
  rw [List.append_assoc]
  exact lev_le (ed_app a _ _ _ ((ed_self b).del c))
theorem lev_turn (a b : List UInt8) (c d : UInt8) : lev (a ++ c :: b) (a ++ d :: b) ≤ 1 := by
  have := lev_le (ed_app a _ _ _ ((ed_self b).both c d))
  have := ch_le c d
  omega

/-! ### Rows -/

/-- The number at place i of the row behind one byte more. -/
def nx (q : List UInt8) (r : List Nat) (c : UInt8) : Nat → Nat
  | 0 => r.getD 0 0 + 1
  | i + 1 => min (min (r.getD i 0 + ch (q.getD i 0) c) (r.getD (i + 1) 0 + 1)) (nx q r c i + 1)
def nextT (q : List UInt8) (r : List Nat) (c : UInt8) : List Nat := (List.range (q.length + 1)).map (nx q r c)
def rowT (q t : List UInt8) : List Nat := (List.range (q.length + 1)).map fun i => lev (q.take i) t

theorem rowT_length (q t : List UInt8) : (rowT q t).length = q.length + 1 := by simp [rowT]
theorem nextT_length (q : List UInt8) (r : List Nat) (c : UInt8) : (nextT q r c).length = q.length + 1 := by simp [nextT]
theorem rowT_at {q t : List UInt8} {i : Nat} (h : i ≤ q.length) : (rowT q t).getD i 0 = lev (q.take i) t := by
  unfold rowT
  simp [List.getD, show i < q.length + 1 by omega]
theorem nextT_at {q : List UInt8} {r : List Nat} {c : UInt8} {i : Nat} (h : i ≤ q.length) : (nextT q r c).getD i 0 = nx q r c i := by
  unfold nextT
  simp [List.getD, show i < q.length + 1 by omega]
theorem rowT_nil (q : List UInt8) : rowT q [] = List.range (q.length + 1) := by
  unfold rowT
  conv => rhs; rw [← List.map_id (List.range (q.length + 1))]
  apply List.map_congr_left
  intro i hi
  rw [lev_to_nil]
  have := List.mem_range.1 hi
  simp
  omega
theorem take_next (q : List UInt8) (i : Nat) (h : i < q.length) : q.take (i + 1) = q.take i ++ [q.getD i 0] := by
  rw [List.take_succ_eq_append_getElem h]
  simp [List.getD, h]
theorem nx_row (q t : List UInt8) (c : UInt8) : ∀ i, i ≤ q.length → nx q (rowT q t) c i = lev (q.take i) (t ++ [c])
  | 0, h => by
    rw [nx, rowT_at h]
    simp [lev_nil]
  | i + 1, h => by
    rw [nx, nx_row q t c i (by omega), rowT_at (by omega), rowT_at h, take_next q i (by omega), lev_snoc]
    omega
theorem nextT_row (q t : List UInt8) (c : UInt8) : nextT q (rowT q t) c = rowT q (t ++ [c]) := by
  unfold nextT
  conv => rhs; unfold rowT
  apply List.map_congr_left
  intro i hi
  have := List.mem_range.1 hi
  exact nx_row q t c i (by omega)
theorem rowT_near {q t : List UInt8} {i : Nat} (h : i < q.length) : lev (q.take (i + 1)) t ≤ lev (q.take i) t + 1 ∧ lev (q.take i) t ≤ lev (q.take (i + 1)) t + 1 := by
  have e : lev (q.take i ++ [q.getD i 0] ++ []) (q.take i ++ []) ≤ 1 := lev_put _ _ _
  rw [List.append_nil, List.append_nil, ← take_next q i h] at e
  have h1 := lev_tri (q.take (i + 1)) (q.take i) t
  have h2 := lev_tri (q.take i) (q.take (i + 1)) t
  rw [lev_comm (q.take i) (q.take (i + 1))] at h2
  omega

/-- The least number of a row. -/
def minT : List Nat → Nat
  | [] => 0
  | x :: l => l.foldl min x
theorem foldl_min (l : List Nat) : ∀ x, l.foldl min x ≤ x ∧ (∀ y ∈ l, l.foldl min x ≤ y) ∧ (l.foldl min x = x ∨ l.foldl min x ∈ l) := by
  induction l with
  | nil => intro x; simp
  | cons z l ih =>
    intro x
    obtain ⟨h1, h2, h3⟩ := ih (min x z)
    simp only [List.foldl_cons]
    refine ⟨by omega, fun y hy => ?_, ?_⟩
    · rcases List.mem_cons.1 hy with rfl | hy
      · omega
      · exact h2 y hy
    · rcases h3 with h3 | h3
      · rcases Nat.le_total x z with h | h
        · left; omega
        · right; rw [h3, Nat.min_eq_right h]; exact List.mem_cons_self
      · exact .inr (List.mem_cons_of_mem _ h3)
theorem minT_le {l : List Nat} {y : Nat} (h : y ∈ l) : minT l ≤ y := by
  cases l with
  | nil => cases h
  | cons x l =>
    obtain ⟨h1, h2, -⟩ := foldl_min l x
    rcases List.mem_cons.1 h with rfl | h
    · exact h1
    · exact h2 y h
theorem minT_mem {l : List Nat} (h : l ≠ []) : minT l ∈ l := by
  cases l with
  | nil => exact (h rfl).elim
  | cons x l =>
    obtain ⟨-, -, h3⟩ := foldl_min l x
    rcases h3 with h3 | h3
    · exact List.mem_cons.2 (.inl h3)
    · exact List.mem_cons.2 (.inr h3)
theorem getD_mem {l : List Nat} {i : Nat} (h : i < l.length) : l.getD i 0 ∈ l := by simp [List.getD, h]
theorem nx_ge (q : List UInt8) (r : List Nat) (c : UInt8) (m : Nat) (hm : ∀ i, i ≤ q.length → m ≤ r.getD i 0) : ∀ i, i ≤ q.length → m ≤ nx q r c i
  | 0, h => by rw [nx]; have := hm 0 h; omega
  | i + 1, h => by
    rw [nx]
    have h1 := hm i (by omega)
    have h2 := hm (i + 1) h
    have h3 := nx_ge q r c m hm i (by omega)
    omega
theorem nx_le (q : List UInt8) (r : List Nat) (c : UInt8) (i : Nat) : nx q r c i ≤ r.getD i 0 + 1 := by
  cases i with
  | zero => rw [nx]; omega
  | succ i => rw [nx]; omega
theorem minT_next (q : List UInt8) (r : List Nat) (c : UInt8) (hr : r.length = q.length + 1) : minT r ≤ minT (nextT q r c) ∧ minT (nextT q r c) ≤ minT r + 1 := by
  constructor
  · have hm := minT_mem (l := nextT q r c) (fun e => by have := nextT_length q r c; rw [e] at this; cases this)
    obtain ⟨i, hi, e⟩ := List.getElem_of_mem hm
    rw [nextT_length] at hi
    have e2 : (nextT q r c).getD i 0 = minT (nextT q r c) := by simp [List.getD, nextT_length, hi, e]
    rw [← e2, nextT_at (by omega)]
    exact nx_ge q r c _ (fun j hj => minT_le (getD_mem (by omega))) i (by omega)
  · have hm := minT_mem (l := r) (fun e => by rw [e] at hr; cases hr)
    obtain ⟨i, hi, e⟩ := List.getElem_of_mem hm
    have h1 : nx q r c i ∈ nextT q r c := by rw [← nextT_at (by omega)]; exact getD_mem (by rw [nextT_length]; omega)
    have h2 := minT_le h1
    have h3 := nx_le q r c i
    have e2 : r.getD i 0 = minT r := by simp [List.getD, hi, e]
    omega
theorem minT_row_step (q t : List UInt8) (c : UInt8) : minT (rowT q t) ≤ minT (rowT q (t ++ [c])) ∧ minT (rowT q (t ++ [c])) ≤ minT (rowT q t) + 1 := by
  rw [← nextT_row]
  exact minT_next q _ c (rowT_length q t)
theorem minT_row_more (q t u : List UInt8) : minT (rowT q t) ≤ minT (rowT q (t ++ u)) := by
  induction u generalizing t with
  | nil => rw [List.append_nil]; exact Nat.le_refl _
  | cons c u ih =>
    have h1 := ih (t ++ [c])
    rw [List.append_assoc] at h1
    exact Nat.le_trans (minT_row_step q t c).1 h1
theorem minT_row_lev (q t : List UInt8) : minT (rowT q t) ≤ lev q t := by
  have h : (rowT q t).getD q.length 0 = lev q t := by rw [rowT_at (Nat.le_refl _), List.take_length]
  rw [← h]
  exact minT_le (getD_mem (by rw [rowT_length]; omega))
/-- A text whose row's least number is above k has no way on to within k. -/
theorem lev_dead (q t u : List UInt8) : minT (rowT q t) ≤ lev q (t ++ u) := Nat.le_trans (minT_row_more q t u) (minT_row_lev q (t ++ u))
end Go.Proofs.Ythgdanbkngnckaa
namespace Go.Proofs.Ythgdanbkngnckaa

/-- A number as a state has it. -/
def cap (k x : Nat) : Nat := min x (k + 1)
def capL (k : Nat) (l : List Nat) : List Nat := l.map (cap k)
theorem cap_le (k x : Nat) : cap k x ≤ k + 1 := Nat.min_le_right _ _
theorem capL_length (k : Nat) (l : List Nat) : (capL k l).length = l.length := by simp [capL]
theorem capL_at (k : Nat) {l : List Nat} {i : Nat} (h : i < l.length) : (capL k l).getD i 0 = cap k (l.getD i 0) := by simp [capL, List.getD, h]
theorem list_ext0 {l m : List Nat} (h : l.length = m.length) (he : ∀ i, i < l.length → l.getD i 0 = m.getD i 0) : l = m := by
  apply List.ext_getElem h
  intro i h1 h2
  have := he i h1
  simpa [List.getD, h1, h2] using this

def startL (q : List UInt8) (k : Nat) : List Nat := capL k (rowT q [])
def stepL (q : List UInt8) (k : Nat) (r : List Nat) (c : UInt8) : List Nat := capL k (nextT q r c)
def readL (q : List UInt8) (k : Nat) (r : List Nat) (t : List UInt8) : List Nat := t.foldl (stepL q k) r
/-- A state. -/
def IsL (q : List UInt8) (k : Nat) (r : List Nat) : Prop := r.length = q.length + 1 ∧ ∀ i, r.getD i 0 ≤ k + 1

theorem capL_le (k : Nat) (l : List Nat) (i : Nat) : (capL k l).getD i 0 ≤ k + 1 := by
  by_cases h : i < l.length
  · rw [capL_at k h]; exact cap_le _ _
  · simp [capL, List.getD, h]
theorem startL_is (q : List UInt8) (k : Nat) : IsL q k (startL q k) := ⟨by rw [startL, capL_length, rowT_length], capL_le _ _⟩
theorem stepL_is (q : List UInt8) (k : Nat) (r : List Nat) (c : UInt8) : IsL q k (stepL q k r c) := ⟨by rw [stepL, capL_length, nextT_length], capL_le _ _⟩
theorem readL_is {q : List UInt8} {k : Nat} : ∀ (t : List UInt8) {r : List Nat}, IsL q k r → IsL q k (readL q k r t)
  | [], _, h => h
  | c :: t, r, _ => readL_is t (stepL_is q k r c)

/-- What the closure makes, number by number: capped as it goes. -/
def cx (q : List UInt8) (k : Nat) (r : List Nat) (c : UInt8) : Nat → Nat
  | 0 => cap k (r.getD 0 0 + 1)
  | i + 1 => cap k (min (min (r.getD i 0 + ch (q.getD i 0) c) (r.getD (i + 1) 0 + 1)) (cx q k r c i + 1))
theorem cx_nx (q : List UInt8) (k : Nat) (r : List Nat) (c : UInt8) : ∀ i, cx q k r c i = cap k (nx q r c i)
  | 0 => rfl
  | i + 1 => by
    rw [cx, nx, cx_nx q k r c i]
    unfold cap
    omega
theorem stepL_at (q : List UInt8) (k : Nat) (r : List Nat) (c : UInt8) {i : Nat} (h : i ≤ q.length) : (stepL q k r c).getD i 0 = cx q k r c i := by
  rw [stepL, capL_at k (by rw [nextT_length]; omega), nextT_at h, cx_nx]
theorem cx_le (q : List UInt8) (k : Nat) (r : List Nat) (c : UInt8) (i : Nat) : cx q k r c i ≤ k + 1 := by rw [cx_nx]; exact cap_le _ _
theorem stepL_map (q : List UInt8) (k : Nat) (r : List Nat) (c : UInt8) : stepL q k r c = (List.range (q.length + 1)).map (cx q k r c) := by
  apply list_ext0
  · rw [(stepL_is q k r c).1]; simp
  · intro i hi
    rw [(stepL_is q k r c).1] at hi
    rw [stepL_at q k r c (by omega)]
    simp [List.getD, hi]
theorem startL_map (q : List UInt8) (k : Nat) : startL q k = (List.range (q.length + 1)).map (cap k) := by rw [startL, rowT_nil]; rfl

/-! ### Rows -/

/-- Capping what is capped less: the step of a capped state is the capped step. -/
theorem cx_cap {q : List UInt8} {k m : Nat} (hkm : k ≤ m) {r s : List Nat} (c : UInt8) (hs : ∀ i, i ≤ q.length → s.getD i 0 = cap k (r.getD i 0)) : ∀ i, i ≤ q.length → cx q k s c i = cap k (cx q m r c i)
  | 0, h => by
    rw [cx, cx, hs 0 h]
    unfold cap
    omega
  | i + 1, h => by
    rw [cx, cx, hs i (by omega), hs (i + 1) h, cx_cap hkm c hs i (by omega)]
    unfold cap
    omega
theorem nx_cap {q : List UInt8} {k : Nat} {r s : List Nat} (c : UInt8) (hs : ∀ i, i ≤ q.length → s.getD i 0 = cap k (r.getD i 0)) : ∀ i, i ≤ q.length → cx q k s c i = cap k (nx q r c i)
  | 0, h => by
    rw [cx, nx, hs 0 h]
    unfold cap
    omega
  | i + 1, h => by
    rw [cx, nx, hs i (by omega), hs (i + 1) h, nx_cap c hs i (by omega)]
    unfold cap
    omega
theorem stepL_row (q t : List UInt8) (k : Nat) (c : UInt8) : stepL q k (capL k (rowT q t)) c = capL k (rowT q (t ++ [c])) := by
  rw [← nextT_row]
  apply list_ext0
  · rw [(stepL_is q k _ c).1, capL_length, nextT_length]
  · intro i hi
    rw [(stepL_is q k _ c).1] at hi
    rw [stepL_at q k _ c (by omega), capL_at k (by rw [nextT_length]; omega), nextT_at (by omega)]
    exact nx_cap c (fun j hj => capL_at k (by rw [rowT_length]; omega)) i (by omega)
theorem readL_row (q : List UInt8) (k : Nat) : ∀ (u t : List UInt8), readL q k (capL k (rowT q t)) u = capL k (rowT q (t ++ u))
  | [], t => by rw [List.append_nil]; rfl
  | c :: u, t => by
    rw [show readL q k (capL k (rowT q t)) (c :: u) = readL q k (stepL q k (capL k (rowT q t)) c) u from rfl, stepL_row, readL_row q k u, List.append_assoc]
    rfl
theorem readL_start (q : List UInt8) (k : Nat) (t : List UInt8) : readL q k (startL q k) t = capL k (rowT q t) := by rw [startL, readL_row]; rfl
theorem readL_append (q : List UInt8) (k : Nat) (r : List Nat) (t u : List UInt8) : readL q k r (t ++ u) = readL q k (readL q k r t) u := by simp [readL]
theorem readL_snoc (q : List UInt8) (k : Nat) (r : List Nat) (t : List UInt8) (c : UInt8) : readL q k r (t ++ [c]) = stepL q k (readL q k r t) c := by rw [readL_append]; rfl

/-- The number of the whole text, and whether it is within. -/
def wholeL (r : List Nat) : Nat := r.getD (r.length - 1) 0
theorem whole_row (q t : List UInt8) (k : Nat) : wholeL (capL k (rowT q t)) = cap k (lev q t) := by
  unfold wholeL
  rw [capL_length, rowT_length, Nat.add_sub_cancel, capL_at k (by rw [rowT_length]; omega), rowT_at (Nat.le_refl _), List.take_length]
theorem row_near {q t : List UInt8} {k n : Nat} (h : n < q.length) : (capL k (rowT q t)).getD (n + 1) 0 ≤ (capL k (rowT q t)).getD n 0 + 1 ∧ (capL k (rowT q t)).getD n 0 ≤ (capL k (rowT q t)).getD (n + 1) 0 + 1 := by
  rw [capL_at k (by rw [rowT_length]; omega), capL_at k (by rw [rowT_length]; omega), rowT_at (by omega), rowT_at (by omega)]
  have := rowT_near (q := q) (t := t) h
  unfold cap
  omega

/-- The dead. -/
theorem minT_le_at {l : List Nat} {i : Nat} (h : i < l.length) : minT l ≤ l.getD i 0 := minT_le (getD_mem h)
theorem minT_step (q : List UInt8) (k : Nat) (r : List Nat) (c : UInt8) (hr : IsL q k r) : minT r ≤ minT (stepL q k r c) := by
  have hl := (stepL_is q k r c).1
  have hm := minT_mem (l := stepL q k r c) (fun e => by rw [e] at hl; cases hl)
  obtain ⟨i, hi, e⟩ := List.getElem_of_mem hm
  have e2 : (stepL q k r c).getD i 0 = minT (stepL q k r c) := by simp [List.getD, hi, e]
  rw [hl] at hi
  rw [← e2, stepL_at q k r c (by omega), cx_nx]
  have h1 := nx_ge q r c (minT r) (fun j hj => minT_le_at (by rw [hr.1]; omega)) i (by omega)
  have h2 := minT_le_at (l := r) (i := 0) (by rw [hr.1]; omega)
  have h3 := hr.2 0
  unfold cap
  omega
theorem minT_at {l : List Nat} (h : 0 < l.length) : ∃ i, i < l.length ∧ l.getD i 0 = minT l := by
  have hm := minT_mem (l := l) (fun e => by rw [e] at h; cases h)
  obtain ⟨i, hi, e⟩ := List.getElem_of_mem hm
  exact ⟨i, hi, by simp [List.getD, hi, e]⟩
/-- A state that is dead stays. -/
theorem dead_step {q : List UInt8} {k : Nat} {r : List Nat} (hr : IsL q k r) (hd : k < minT r) (c : UInt8) : stepL q k r c = r := by
  apply list_ext0
  · rw [(stepL_is q k r c).1, hr.1]
  · intro i hi
    have h0 := (stepL_is q k r c).1
    have h1 := minT_step q k r c hr
    have h2 := minT_le_at hi
    have h3 := minT_le_at (l := r) (i := i) (by rw [hr.1, ← h0]; exact hi)
    have h4 := hr.2 i
    have h5 := (stepL_is q k r c).2 i
    omega
theorem dead_read {q : List UInt8} {k : Nat} {r : List Nat} (hr : IsL q k r) (hd : k < minT r) : ∀ t : List UInt8, readL q k r t = r
  | [] => rfl
  | c :: t => by
    show readL q k (stepL q k r c) t = r
    rw [dead_step hr hd]
    exact dead_read hr hd t
theorem min_whole {q : List UInt8} {k : Nat} {r : List Nat} (hr : IsL q k r) : minT r ≤ wholeL r := minT_le_at (by rw [hr.1]; omega)
/-- What is left of the text leads to a Dist. -/
theorem way_on {q : List UInt8} {k : Nat} : ∀ (m n : Nat) {r : List Nat}, IsL q k r → n + m = q.length → wholeL (readL q k r (q.drop n)) ≤ r.getD n 0
  | 0, n, r, hr, hn => by
    rw [show q.drop n = [] by rw [List.drop_eq_nil_iff]; omega]
    show wholeL r ≤ _
    unfold wholeL
    rw [hr.1, show q.length + 1 - 1 = n by omega]
    exact Nat.le_refl _
  | m + 1, n, r, hr, hn => by
    rw [List.drop_eq_getElem_cons (by omega : n < q.length)]
    show wholeL (readL q k (stepL q k r q[n]) (q.drop (n + 1))) ≤ _
    refine Nat.le_trans (way_on m (n + 1) (stepL_is q k r _) (by omega)) ?_
    rw [stepL_at q k r _ (by omega), cx, show q.getD n 0 = q[n] by simp [List.getD, show n < q.length by omega], ch_self]
    unfold cap
    omega

/-! ### Two bounds -/
theorem stepL_cap {q : List UInt8} {k m : Nat} (hkm : k ≤ m) {r s : List Nat} (hr : IsL q m r) (hs : s = capL k r) (c : UInt8) : stepL q k s c = capL k (stepL q m r c) := by
  apply list_ext0
  · rw [capL_length, (stepL_is q k s c).1, (stepL_is q m r c).1]
  · intro i hi
    rw [(stepL_is q k s c).1] at hi
    rw [capL_at k (by rw [(stepL_is q m r c).1]; exact hi), stepL_at q k s c (by omega), stepL_at q m r c (by omega)]
    exact cx_cap hkm c (fun j hj => by rw [hs]; exact capL_at k (by rw [hr.1]; omega)) i (by omega)

/-! ### The bytes that lead elsewhere -/
/-- At the first place where two bytes' numbers are unlike, the byte that has less stands there, and the number ahead is within. -/
theorem cx_first {q : List UInt8} {k : Nat} {r : List Nat} {b c : UInt8} : ∀ n, n ≤ q.length → (∀ j, j < n → cx q k r b j = cx q k r c j) → cx q k r b n ≠ cx q k r c n → c ∉ q → ∃ i, n = i + 1 ∧ q.getD i 0 = b ∧ r.getD i 0 ≤ k
  | 0, _, _, hne, _ => (hne rfl).elim
  | i + 1, h, he, hne, hc => by
    have h1 := he i (by omega)
    refine ⟨i, rfl, ?_⟩
    have hq : q.getD i 0 ≠ c := fun e => hc (by rw [← e]; simp [List.getD, show i < q.length by omega])
    have e2 : ch (q.getD i 0) c = 1 := by unfold ch; rw [if_neg hq]
    rw [cx, cx, h1, e2] at hne
    constructor
    · by_cases hb : q.getD i 0 = b
      · exact hb
      · exact (hne (by unfold ch; rw [if_neg hb])).elim
    · have := ch_le (q.getD i 0) b
      unfold cap at hne
      omega
/-- Bytes that are not in the text lead to one and the same. -/
theorem step_foreign {q : List UInt8} {k : Nat} {r : List Nat} {b c : UInt8} (hb : b ∉ q) (hc : c ∉ q) : stepL q k r b = stepL q k r c := by
  rw [stepL_map, stepL_map]
  apply List.map_congr_left
  intro i hi
  have hi := List.mem_range.1 hi
  have key : ∀ i, i < q.length + 1 → cx q k r b i = cx q k r c i := by
    intro i
    induction i with
    | zero => intro _; rfl
    | succ i ih =>
      intro h
      have e : ∀ x, x ∉ q → ch (q.getD i 0) x = 1 := fun x hx => by
        unfold ch
        rw [if_neg (fun e => hx (by rw [← e]; simp [List.getD, show i < q.length by omega]))]
      rw [cx, cx, e b hb, e c hc, ih (by omega)]
  exact key i hi
/-- The first place where two lists of one length are unlike. -/
theorem first_unlike {l m : Nat → Nat} (N : Nat) (h : ∃ i, i ≤ N ∧ l i ≠ m i) : ∃ n, n ≤ N ∧ (∀ j, j < n → l j = m j) ∧ l n ≠ m n := by
  obtain ⟨i, hi, hne⟩ := h
  induction i using Nat.strongRecOn with
  | ind i ih =>
    by_cases hex : ∃ j, j < i ∧ l j ≠ m j
    · obtain ⟨j, hj, hjn⟩ := hex
      exact ih j hj (by omega) hjn
    · exact ⟨i, hi, fun j hj => by
        by_cases e : l j = m j
        · exact e
        · exact (hex ⟨j, hj, e⟩).elim, hne⟩
theorem step_unlike {q : List UInt8} {k : Nat} {r : List Nat} {b c : UInt8} (h : stepL q k r b ≠ stepL q k r c) : ∃ n, n ≤ q.length ∧ (∀ j, j < n → cx q k r b j = cx q k r c j) ∧ cx q k r b n ≠ cx q k r c n := by
  refine first_unlike q.length ?_
  by_cases hex : ∃ i, i ≤ q.length ∧ cx q k r b i ≠ cx q k r c i
  · exact hex
  · refine (h ?_).elim
    rw [stepL_map, stepL_map]
    apply List.map_congr_left
    intro i hi
    have := List.mem_range.1 hi
    by_cases e : cx q k r b i = cx q k r c i
    · exact e
    · exact (hex ⟨i, by omega, e⟩).elim
/-- A byte that leads elsewhere stands in the text behind a number that is within. -/
theorem leads_in {q : List UInt8} {k : Nat} {r : List Nat} {b c : UInt8} (hc : c ∉ q) (h : stepL q k r b ≠ stepL q k r c) : ∃ i, i < q.length ∧ q.getD i 0 = b ∧ r.getD i 0 ≤ k := by
  obtain ⟨n, hn, he, hne⟩ := step_unlike h
  obtain ⟨i, rfl, h1, h2⟩ := cx_first n hn he hne hc
  exact ⟨i, by omega, h1, h2⟩
/-- Two bytes that lead elsewhere, to one state, are one. -/
theorem leads_one {q : List UInt8} {k : Nat} {r : List Nat} {a b c : UInt8} (hc : c ∉ q) (h : stepL q k r a ≠ stepL q k r c) (e : stepL q k r a = stepL q k r b) : a = b := by
  obtain ⟨n, hn, he, hne⟩ := step_unlike h
  obtain ⟨i, rfl, h1, -⟩ := cx_first n hn he hne hc
  have hab : ∀ j, j ≤ q.length → cx q k r a j = cx q k r b j := fun j hj => by rw [← stepL_at q k r a hj, ← stepL_at q k r b hj, e]
  obtain ⟨i', e', h1', -⟩ := cx_first (q := q) (k := k) (r := r) (b := b) (c := c) (i + 1) hn (fun j hj => by rw [← hab j (by omega)]; exact he j hj) (by rw [← hab _ hn]; exact hne) hc
  have : i = i' := by omega
  subst this
  exact h1.symm.trans h1'
end Go.Proofs.Ythgdanbkngnckaa
namespace Go.Proofs.Ythgdanbkngnckaa

/-- The distance of two beginnings. -/
def dd (a b : List UInt8) (i j : Nat) : Nat := lev (a.take i) (b.take j)

theorem dd_zero (a b : List UInt8) (j : Nat) (h : j ≤ b.length) : dd a b 0 j = j := by
  unfold dd
  simp [lev_nil]
  omega
theorem dd_to_zero (a b : List UInt8) (i : Nat) (h : i ≤ a.length) : dd a b i 0 = i := by
  unfold dd
  simp [lev_to_nil]
  omega
theorem dd_succ (a b : List UInt8) (i j : Nat) (hi : i < a.length) (hj : j < b.length) : dd a b (i + 1) (j + 1) = min (dd a b i j + ch (a.getD i 0) (b.getD j 0)) (min (dd a b i (j + 1) + 1) (dd a b (i + 1) j + 1)) := by
  unfold dd
  rw [take_next a i hi, take_next b j hj, lev_snoc]
theorem dd_same (a b : List UInt8) (i j : Nat) (hi : i < a.length) (hj : j < b.length) (e : a.getD i 0 = b.getD j 0) : dd a b (i + 1) (j + 1) = dd a b i j := by
  unfold dd
  rw [take_next a i hi, take_next b j hj, e, lev_behind]
theorem dd_all (a b : List UInt8) : dd a b a.length b.length = lev a b := by
  unfold dd
  rw [List.take_length, List.take_length]
theorem dd_bound (a b : List UInt8) (i j : Nat) : dd a b i j ≤ a.length + b.length := by
  unfold dd
  have h1 := lev_max (a.take i) (b.take j)
  have h2 : (a.take i).length ≤ a.length := List.length_take_le' _ _
  have h3 : (b.take j).length ≤ b.length := List.length_take_le' _ _
  omega

/-- The last letter of the script of two beginnings. -/
def letterT (a b : List UInt8) (i j : Nat) : UInt8 :=
  if j = 0 then 45 else if i = 0 then 43 else if a.getD (i - 1) 0 = b.getD (j - 1) 0 then 61 else if dd a b i j = dd a b (i - 1) (j - 1) + 1 then 120 else if dd a b i j = dd a b (i - 1) j + 1 then 45 else 43
theorem letterT_cases (a b : List UInt8) (i j : Nat) : letterT a b i j = 45 ∨ letterT a b i j = 43 ∨ letterT a b i j = 61 ∨ letterT a b i j = 120 := by
  unfold letterT
  repeat' split
  all_goals simp

/-- The letters from the end on. -/
def backT (a b : List UInt8) : Nat → Nat → Nat → List UInt8
  | 0, _, _ => []
  | f + 1, i, j => if i = 0 ∧ j = 0 then [] else letterT a b i j :: backT a b f (if letterT a b i j = 43 then i else i - 1) (if letterT a b i j = 45 then j else j - 1)
def scriptT (a b : List UInt8) : List UInt8 := (backT a b (a.length + b.length) a.length b.length).reverse

/-- What a letter asks, and where it leads: the places behind, and how many changes. -/
structure Leads (a b : List UInt8) (i j : Nat) : Prop where
  i1 : letterT a b i j ≠ 43 → 1 ≤ i
  j1 : letterT a b i j ≠ 45 → 1 ≤ j
  eq : letterT a b i j = 61 → a.getD (i - 1) 0 = b.getD (j - 1) 0
  ne : letterT a b i j = 120 → a.getD (i - 1) 0 ≠ b.getD (j - 1) 0
  dist : dd a b i j = dd a b (if letterT a b i j = 43 then i else i - 1) (if letterT a b i j = 45 then j else j - 1) + if letterT a b i j = 61 then 0 else 1

theorem letter_leads (a b : List UInt8) (i j : Nat) (hi : i ≤ a.length) (hj : j ≤ b.length) (h : ¬ (i = 0 ∧ j = 0)) : Leads a b i j := by
  by_cases j0 : j = 0
  · have e : letterT a b i j = 45 := by unfold letterT; rw [if_pos j0]
    have i0 : 1 ≤ i := by omega
    subst j0
    refine ⟨fun _ => i0, fun h => (h e).elim, fun h => by rw [e] at h; simp at h, fun h => by rw [e] at h; simp at h, ?_⟩
    rw [e]
    simp only [if_true, show (45 : UInt8) = 43 ↔ False by decide, show (45 : UInt8) = 61 ↔ False by decide, if_false]
    rw [dd_to_zero a b i hi, dd_to_zero a b (i - 1) (by omega)]
    omega
  by_cases i0 : i = 0
  · have e : letterT a b i j = 43 := by unfold letterT; rw [if_neg j0, if_pos i0]
    subst i0
    refine ⟨fun h => (h e).elim, fun _ => by omega, fun h => by rw [e] at h; simp at h, fun h => by rw [e] at h; simp at h, ?_⟩
    rw [e]
    simp only [if_true, show (43 : UInt8) = 45 ↔ False by decide, show (43 : UInt8) = 61 ↔ False by decide, if_false]
    rw [dd_zero a b j hj, dd_zero a b (j - 1) (by omega)]
    omega
  obtain ⟨i, rfl⟩ : ∃ m, i = m + 1 := ⟨i - 1, by omega⟩
  obtain ⟨j, rfl⟩ : ∃ m, j = m + 1 := ⟨j - 1, by omega⟩
  have hs := dd_succ a b i j (by omega) (by omega)
  by_cases ab : a.getD i 0 = b.getD j 0
  · have e : letterT a b (i + 1) (j + 1) = 61 := by
      unfold letterT
      rw [if_neg j0, if_neg i0]
      simp only [Nat.add_sub_cancel]
      rw [if_pos ab]
    refine ⟨fun _ => by omega, fun _ => by omega, fun _ => ab, fun h => by rw [e] at h; simp at h, ?_⟩
    rw [e]
    simp only [if_true, show (61 : UInt8) = 45 ↔ False by decide, show (61 : UInt8) = 43 ↔ False by decide, if_false, Nat.add_sub_cancel]
    rw [dd_same a b i j (by omega) (by omega) ab]
    omega
  · have hc : ch (a.getD i 0) (b.getD j 0) = 1 := by unfold ch; rw [if_neg ab]
    rw [hc] at hs
    by_cases hx : dd a b (i + 1) (j + 1) = dd a b i j + 1
    · have e : letterT a b (i + 1) (j + 1) = 120 := by
        unfold letterT
        rw [if_neg j0, if_neg i0]
        simp only [Nat.add_sub_cancel]
        rw [if_neg ab, if_pos hx]
      refine ⟨fun _ => by omega, fun _ => by omega, fun h => by rw [e] at h; simp at h, fun _ => ab, ?_⟩
      rw [e]
      simp only [show (120 : UInt8) = 45 ↔ False by decide, show (120 : UInt8) = 43 ↔ False by decide, show (120 : UInt8) = 61 ↔ False by decide, if_false, Nat.add_sub_cancel]
      exact hx
    · by_cases ho : dd a b (i + 1) (j + 1) = dd a b i (j + 1) + 1
      · have e : letterT a b (i + 1) (j + 1) = 45 := by
          unfold letterT
          rw [if_neg j0, if_neg i0]
          simp only [Nat.add_sub_cancel]
          rw [if_neg ab, if_neg hx, if_pos ho]
        refine ⟨fun _ => by omega, fun h => (h e).elim, fun h => by rw [e] at h; simp at h, fun h => by rw [e] at h; simp at h, ?_⟩
        rw [e]
        simp only [if_true, show (45 : UInt8) = 43 ↔ False by decide, show (45 : UInt8) = 61 ↔ False by decide, if_false, Nat.add_sub_cancel]
        exact ho
      · have e : letterT a b (i + 1) (j + 1) = 43 := by
          unfold letterT
          rw [if_neg j0, if_neg i0]
          simp only [Nat.add_sub_cancel]
          rw [if_neg ab, if_neg hx, if_neg ho]
        refine ⟨fun h => (h e).elim, fun _ => by omega, fun h => by rw [e] at h; simp at h, fun h => by rw [e] at h; simp at h, ?_⟩
        rw [e]
        simp only [if_true, show (43 : UInt8) = 45 ↔ False by decide, show (43 : UInt8) = 61 ↔ False by decide, if_false, Nat.add_sub_cancel]
        omega

theorem backT_length (a b : List UInt8) : ∀ f i j, (backT a b f i j).length ≤ f
  | 0, _, _ => Nat.le_refl _
  | f + 1, i, j => by
    unfold backT
    split
    · simp
    · have := backT_length a b f (if letterT a b i j = 43 then i else i - 1) (if letterT a b i j = 45 then j else j - 1)
      simp only [List.length_cons]
      omega
theorem scriptT_length (a b : List UInt8) : (scriptT a b).length ≤ a.length + b.length := by
  unfold scriptT
  rw [List.length_reverse]
  exact backT_length a b _ _ _
/-- More fuel changes nothing. -/
theorem backT_more (a b : List UInt8) : ∀ f i j, i ≤ a.length → j ≤ b.length → i + j ≤ f → ∀ g, i + j ≤ g → backT a b f i j = backT a b g i j
  | 0, i, j, _, _, h, g, _ => by
    have e : i = 0 ∧ j = 0 := by omega
    cases g with
    | zero => rfl
    | succ g => unfold backT; rw [if_pos e]
  | f + 1, i, j, hi, hj, h, g, hg => by
    by_cases e : i = 0 ∧ j = 0
    · cases g with
      | zero => unfold backT; rw [if_pos e]
      | succ g => unfold backT; rw [if_pos e, if_pos e]
    · cases g with
      | zero => omega
      | succ g =>
        unfold backT
        rw [if_neg e, if_neg e]
        have L := letter_leads a b i j hi hj e
        have c := letterT_cases a b i j
        congr 1
        by_cases h1 : letterT a b i j = 43
        · have h2 : letterT a b i j ≠ 45 := by rw [h1]; decide
          have := L.j1 h2
          rw [if_pos h1, if_neg h2]
          exact backT_more a b f _ _ hi (by omega) (by omega) g (by omega)
        · have := L.i1 h1
          rw [if_neg h1]
          by_cases h2 : letterT a b i j = 45
          · rw [if_pos h2]
            exact backT_more a b f _ _ (by omega) hj (by omega) g (by omega)
          · have := L.j1 h2
            rw [if_neg h2]
            exact backT_more a b f _ _ (by omega) (by omega) (by omega) g (by omega)
/-- A step back. -/
theorem backT_step (a b : List UInt8) (i j : Nat) (hi : i ≤ a.length) (hj : j ≤ b.length) (e : ¬ (i = 0 ∧ j = 0)) : backT a b (i + j) i j = letterT a b i j :: backT a b ((if letterT a b i j = 43 then i else i - 1) + (if letterT a b i j = 45 then j else j - 1)) (if letterT a b i j = 43 then i else i - 1) (if letterT a b i j = 45 then j else j - 1) := by
  obtain ⟨f, hf⟩ : ∃ f, i + j = f + 1 := ⟨i + j - 1, by omega⟩
  rw [hf]
  conv => lhs; unfold backT
  rw [if_neg e]
  have L := letter_leads a b i j hi hj e
  congr 1
  by_cases h1 : letterT a b i j = 43
  · have h2 : letterT a b i j ≠ 45 := by rw [h1]; decide
    have := L.j1 h2
    simp only [if_pos h1, if_neg h2]
    exact backT_more a b f _ _ hi (by omega) (by omega) _ (by omega)
  · have := L.i1 h1
    simp only [if_neg h1]
    by_cases h2 : letterT a b i j = 45
    · simp only [if_pos h2]
      exact backT_more a b f _ _ (by omega) hj (by omega) _ (by omega)
    · have := L.j1 h2
      simp only [if_neg h2]
      exact backT_more a b f _ _ (by omega) (by omega) (by omega) _ (by omega)

/-! ### A script read from the front -/

/-- Where a letter leads, if it goes with both texts. -/
def goM (a b : List UInt8) (x : Nat × Nat × Nat) (c : UInt8) : Option (Nat × Nat × Nat) :=
  let i := if c = 43 then x.1 else x.1 + 1
  let k := if c = 45 then x.2.1 else x.2.1 + 1
  if a.length < i ∨ b.length < k then none
  else if c = 61 then (if a.getD (i - 1) 0 = b.getD (k - 1) 0 then some (i, k, x.2.2) else none)
  else if c = 120 then (if a.getD (i - 1) 0 = b.getD (k - 1) 0 then none else some (i, k, x.2.2 + 1))
  else if c = 45 ∨ c = 43 then some (i, k, x.2.2 + 1) else none
def goAll (a b : List UInt8) : Nat × Nat × Nat → List UInt8 → Option (Nat × Nat × Nat)
  | x, [] => some x
  | x, c :: s => (goM a b x c).bind fun y => goAll a b y s
theorem goAll_append (a b : List UInt8) : ∀ (s t : List UInt8) x, goAll a b x (s ++ t) = (goAll a b x s).bind fun y => goAll a b y t
  | [], t, x => rfl
  | c :: s, t, x => by
    simp only [List.cons_append, goAll]
    cases goM a b x c with
    | none => rfl
    | some y => exact goAll_append a b s t y

theorem back_goes (a b : List UInt8) : ∀ f i j, i ≤ a.length → j ≤ b.length → i + j ≤ f → goAll a b (0, 0, 0) (backT a b f i j).reverse = some (i, j, dd a b i j)
  | 0, i, j, hi, hj, h => by
    obtain ⟨rfl, rfl⟩ : i = 0 ∧ j = 0 := by omega
    rw [dd_zero a b 0 (by omega)]
    rfl
  | f + 1, i, j, hi, hj, h => by
    unfold backT
    by_cases e : i = 0 ∧ j = 0
    · rw [if_pos e]
      obtain ⟨rfl, rfl⟩ := e
      rw [dd_zero a b 0 (by omega)]
      rfl
    · rw [if_neg e, List.reverse_cons, goAll_append]
      have L := letter_leads a b i j hi hj e
      have c := letterT_cases a b i j
      have hd := L.dist
      have l1 := L.i1
      have l2 := L.j1
      have l3 := L.eq
      have l4 := L.ne
      clear L
      generalize letterT a b i j = q at c hd l1 l2 l3 l4 ⊢
      have ih := back_goes a b f (if q = 43 then i else i - 1) (if q = 45 then j else j - 1) (by split <;> omega) (by split <;> omega) (by
        rcases c with rfl | rfl | rfl | rfl
        · simp at l1 l2 ⊢; omega
        · simp at l1 l2 ⊢; omega
        · simp at l1 l2 ⊢; omega
        · simp at l1 l2 ⊢; omega)
      rw [ih, hd]
      rcases c with rfl | rfl | rfl | rfl
      · have := l1 (by decide)
        simp only [Option.bind_some, goAll, goM, show (45 : UInt8) = 43 ↔ False by decide, show (45 : UInt8) = 61 ↔ False by decide, show (45 : UInt8) = 120 ↔ False by decide, if_true, if_false, true_or]
        rw [if_neg (by omega), show i - 1 + 1 = i by omega]
        rfl
      · have := l2 (by decide)
        simp only [Option.bind_some, goAll, goM, show (43 : UInt8) = 45 ↔ False by decide, show (43 : UInt8) = 61 ↔ False by decide, show (43 : UInt8) = 120 ↔ False by decide, if_true, if_false, or_true]
        rw [if_neg (by omega), show j - 1 + 1 = j by omega]
        rfl
      · have h1 := l1 (by decide)
        have h2 := l2 (by decide)
        have h3 := l3 rfl
        simp only [Option.bind_some, goAll, goM, show (61 : UInt8) = 45 ↔ False by decide, show (61 : UInt8) = 43 ↔ False by decide, if_true, if_false]
        rw [if_neg (by omega), show i - 1 + 1 = i by omega, show j - 1 + 1 = j by omega, if_pos h3]
        rfl
      · have h1 := l1 (by decide)
        have h2 := l2 (by decide)
        have h3 := l4 rfl
        simp only [Option.bind_some, goAll, goM, show (120 : UInt8) = 45 ↔ False by decide, show (120 : UInt8) = 43 ↔ False by decide, show (120 : UInt8) = 61 ↔ False by decide, if_true, if_false]
        rw [if_neg (by omega), show i - 1 + 1 = i by omega, show j - 1 + 1 = j by omega, if_neg h3]
        rfl
/-- A script goes from one text to the other, with as many changes as the distance. -/
theorem script_goes (a b : List UInt8) : goAll a b (0, 0, 0) (scriptT a b) = some (a.length, b.length, lev a b) := by
  unfold scriptT
  rw [back_goes a b _ _ _ (Nat.le_refl _) (Nat.le_refl _) (Nat.le_refl _), dd_all]
/-- On the way. -/
theorem goes_at {a b s : List UInt8} {z : Nat × Nat × Nat} (h : goAll a b (0, 0, 0) s = some z) (n : Nat) (hn : n < s.length) : ∃ x y, goAll a b (0, 0, 0) (s.take n) = some x ∧ goM a b x (s.getD n 0) = some y ∧ goAll a b (0, 0, 0) (s.take (n + 1)) = some y := by
  have e := take_next s n hn
  have h2 := h
  rw [← List.take_append_drop (n + 1) s, goAll_append, e, goAll_append] at h2
  cases h3 : goAll a b (0, 0, 0) (s.take n) with
  | none => rw [h3] at h2; cases h2
  | some x =>
    rw [h3] at h2
    simp only [Option.bind_some, goAll] at h2
    cases h4 : goM a b x (s.getD n 0) with
    | none => rw [h4] at h2; cases h2
    | some y =>
      refine ⟨x, y, rfl, h4, ?_⟩
      rw [e, goAll_append, h3]
      simp only [Option.bind_some, goAll, h4]
end Go.Proofs.Ythgdanbkngnckaa

/-
  Entries, and lists of them, in plain words: their order, what a list says of a word, an entry put into a list, two lists put together, what stays of a sorted list of which each word counts once.
-/
import Derived.Test.YtfnmmnbndfdpiaaWSmall
import Derived.Test.YtfnmmnbndfdpiaaSMath
namespace Go.Proofs.Ytfnmmnbndfdpiaa
open Go.Sort

/-- An entry: a word, its weight, whether it is gone. -/
structure Ent where
  word : ByteArray
  weight : Nat
  gone : Bool

instance : Inhabited Ent := ⟨⟨⟨#[]⟩, 0, false⟩⟩

/-- Its cells. -/
def enc (e : Ent) : List Value := [.string e.word, .int .u32 (e.weight : Int), .bool e.gone]
/-- Its word's bytes. -/
def key (e : Ent) : List UInt8 := e.word.data.toList
/-- Is its word less? -/
def ltE (a b : Ent) : Bool := lessT a.word b.word
/-- Below 0, 0, or above 0. -/
def ordT (a b : ByteArray) : Int := if lessT a b = true then -1 else if lessT b a = true then 1 else 0
def cfE (a b : Ent) : Int := ordT a.word b.word
/-- An entry that is gone weighs nothing. -/
def bare (e : Ent) : Ent := if e.gone = true then ⟨e.word, 0, e.gone⟩ else e

theorem ltE_def (a b : Ent) : ltE a b = Plain.less (key a) (key b) := rfl
theorem key_bare (e : Ent) : key (bare e) = key e := by unfold bare; split <;> rfl
theorem bare_bare (e : Ent) : bare (bare e) = bare e := by unfold bare; cases h : e.gone <;> simp [h]
theorem gone_bare (e : Ent) : (bare e).gone = e.gone := by unfold bare; split <;> simp_all

theorem key_word {a b : Ent} (h : key a = key b) : a.word = b.word := ByteArray.ext (Array.toList_inj.1 h)

theorem ordT_neg (a b : ByteArray) : decide (ordT a b < 0) = lessT a b := by
  unfold ordT
  cases h : lessT a b
  · rw [if_neg (by simp)]
    by_cases h2 : lessT b a = true
    · rw [if_pos h2]; rfl
    · rw [if_neg h2]; rfl
  · rw [if_pos rfl]; rfl

theorem less_ntrans (x y z : List UInt8) (h1 : Plain.less x y = false) (h2 : Plain.less y z = false) : Plain.less x z = false := by
  cases h : Plain.less x z with
  | false => rfl
  | true =>
    by_cases e : x = y
    · subst e; rw [h] at h2; cases h2
    · rcases Plain.less_total x y e with g | g
      · rw [g] at h1; cases h1
      · have := Plain.less_trans y x z g h
        rw [this] at h2; cases h2

theorem swoE : SWO ltE where
  irrefl _ := Plain.less_irrefl _
  trans _ _ _ h1 h2 := Plain.less_trans _ _ _ h1 h2
  ntrans _ _ _ h1 h2 := less_ntrans _ _ _ h1 h2

theorem ltE_key (x y : Ent) (h : ltE x y = true) : key x ≠ key y := Plain.less_ne h

theorem ltE_of {x y : Ent} (h1 : ltE x y = false) (h2 : key x ≠ key y) : ltE y x = true := by
  rcases Plain.less_total _ _ h2 with g | g
  · have : ltE x y = true := g
    rw [this] at h1; cases h1
  · exact g

/-! ### Lists by rising words -/

def risingE : List Ent → Bool
  | [] => true
  | [_] => true
  | x :: y :: l => ltE x y && risingE (y :: l)

theorem risingE_cons {x : Ent} {l : List Ent} : risingE (x :: l) = true ↔ (∀ y ∈ l, ltE x y = true) ∧ risingE l = true := by
  induction l generalizing x with
  | nil => simp [risingE]
  | cons y l ih =>
    rw [show risingE (x :: y :: l) = (ltE x y && risingE (y :: l)) from rfl, Bool.and_eq_true]
    constructor
    · rintro ⟨h1, h2⟩
      refine ⟨fun z hz => ?_, h2⟩
      rcases List.mem_cons.1 hz with rfl | hz
      · exact h1
      · exact swoE.trans _ _ _ h1 ((ih.1 h2).1 z hz)
    · rintro ⟨h1, h2⟩
      exact ⟨h1 y (List.mem_cons_self ..), h2⟩

theorem risingE_append {a b : List Ent} : risingE (a ++ b) = true ↔ risingE a = true ∧ risingE b = true ∧ ∀ x ∈ a, ∀ y ∈ b, ltE x y = true := by
  induction a with
  | nil => simp [risingE]
  | cons z a ih =>
    rw [List.cons_append, risingE_cons, risingE_cons, ih]
    constructor
    · rintro ⟨h1, h2, h3, h4⟩
      refine ⟨⟨fun y hy => h1 y (List.mem_append_left _ hy), h2⟩, h3, fun x hx y hy => ?_⟩
      rcases List.mem_cons.1 hx with rfl | hx
      · exact h1 y (List.mem_append_right _ hy)
      · exact h4 x hx y hy
    · rintro ⟨⟨h1, h2⟩, h3, h4⟩
      refine ⟨fun y hy => ?_, h2, h3, fun x hx y hy => h4 x (List.mem_cons_of_mem _ hx) y hy⟩
      rcases List.mem_append.1 hy with hy | hy
      · exact h1 y hy
      · exact h4 z (List.mem_cons_self ..) y hy

theorem risingE_take {l : List Ent} (h : risingE l = true) (n : Nat) : risingE (l.take n) = true := by
  rw [← List.take_append_drop n l, risingE_append] at h
  exact h.1
theorem risingE_drop {l : List Ent} (h : risingE l = true) (n : Nat) : risingE (l.drop n) = true := by
  rw [← List.take_append_drop n l, risingE_append] at h
  exact h.2.1

/-- What a list says of a word. -/
def findE (l : List Ent) (c : List UInt8) : Option Ent := l.find? fun x => decide (key x = c)

theorem findE_nil (c : List UInt8) : findE [] c = none := rfl
theorem findE_cons (x : Ent) (l : List Ent) (c : List UInt8) : findE (x :: l) c = if key x = c then some x else findE l c := by
  unfold findE
  rw [List.find?_cons]
  by_cases h : key x = c
  · rw [decide_eq_true h, if_pos h]
  · rw [decide_eq_false h, if_neg h]
theorem findE_append (a b : List Ent) (c : List UInt8) : findE (a ++ b) c = (findE a c).or (findE b c) := List.find?_append
theorem findE_none {l : List Ent} {c : List UInt8} : findE l c = none ↔ ∀ x ∈ l, key x ≠ c := by
  unfold findE
  rw [List.find?_eq_none]
  simp
theorem findE_some {l : List Ent} {c : List UInt8} {x : Ent} (h : findE l c = some x) : x ∈ l ∧ key x = c :=
  ⟨List.mem_of_find?_eq_some h, by simpa using List.find?_some h⟩
theorem findE_filter (l : List Ent) (c : List UInt8) : findE l c = (l.filter fun x => decide (key x = c)).head? := by
  unfold findE; rw [List.head?_filter]
theorem findE_mem {l : List Ent} (h : risingE l = true) {x : Ent} (hx : x ∈ l) : findE l (key x) = some x := by
  induction l with
  | nil => cases hx
  | cons y l ih =>
    rw [findE_cons]
    rw [risingE_cons] at h
    rcases List.mem_cons.1 hx with rfl | hx
    · rw [if_pos rfl]
    · rw [if_neg (ltE_key _ _ (h.1 x hx)), ih h.2 hx]

/-- Lists by rising words that say the same of each word are one. -/
theorem risingE_ext : ∀ {a b : List Ent}, risingE a = true → risingE b = true → (∀ c, findE a c = findE b c) → a = b
  | [], [], _, _, _ => rfl
  | [], y :: b, _, _, h => by have := h (key y); rw [findE_cons, if_pos rfl] at this; cases this
  | x :: a, [], _, _, h => by have := h (key x); rw [findE_cons, if_pos rfl] at this; cases this
  | x :: a, y :: b, ha, hb, h => by
    have ha' := risingE_cons.1 ha
    have hb' := risingE_cons.1 hb
    have hk : key x = key y := by
      by_cases e : key x = key y
      · exact e
      · exfalso
        have h1 := h (key x)
        have h2 := h (key y)
        rw [findE_cons, if_pos rfl, findE_cons, if_neg (Ne.symm e)] at h1
        rw [findE_cons, if_neg e, findE_cons, if_pos rfl] at h2
        have g1 := findE_some h1.symm
        have g2 := findE_some h2
        have := swoE.trans _ _ _ (ha'.1 y g2.1) (hb'.1 x g1.1)
        rw [swoE.irrefl] at this
        cases this
    have hxy : x = y := by
      have := h (key x)
      rw [findE_cons, if_pos rfl, findE_cons, if_pos hk.symm] at this
      exact Option.some.inj this
    subst hxy
    refine congrArg _ (risingE_ext ha'.2 hb'.2 fun c => ?_)
    by_cases e : key x = c
    · rw [findE_none.2 fun z hz => e ▸ (ltE_key _ _ (ha'.1 z hz)).symm, findE_none.2 fun z hz => e ▸ (ltE_key _ _ (hb'.1 z hz)).symm]
    · have := h c
      rwa [findE_cons, if_neg e, findE_cons, if_neg e] at this

/-! ### An entry put into a list -/

def putE : List Ent → Ent → List Ent
  | [], e => [e]
  | x :: l, e => if ltE x e = true then x :: putE l e else if ltE e x = true then e :: x :: l else e :: l

theorem mem_putE {l : List Ent} {e x : Ent} (h : x ∈ putE l e) : x = e ∨ x ∈ l := by
  induction l with
  | nil => simp [putE] at h; exact .inl h
  | cons y l ih =>
    unfold putE at h
    split at h
    · rcases List.mem_cons.1 h with rfl | h
      · exact .inr (List.mem_cons_self ..)
      · rcases ih h with h | h
        · exact .inl h
        · exact .inr (List.mem_cons_of_mem _ h)
    · split at h
      · rcases List.mem_cons.1 h with rfl | h
        · exact .inl rfl
        · exact .inr h
      · rcases List.mem_cons.1 h with rfl | h
        · exact .inl rfl
        · exact .inr (List.mem_cons_of_mem _ h)

theorem putE_rising {l : List Ent} (h : risingE l = true) (e : Ent) : risingE (putE l e) = true := by
  induction l with
  | nil => rfl
  | cons x l ih =>
    have h' := risingE_cons.1 h
    unfold putE
    split
    · rename_i h1
      rw [risingE_cons]
      refine ⟨fun y hy => ?_, ih h'.2⟩
      rcases mem_putE hy with rfl | hy
      · exact h1
      · exact h'.1 y hy
    · rename_i h1
      split
      · rename_i h2
        rw [risingE_cons]
        refine ⟨fun y hy => ?_, h⟩
        rcases List.mem_cons.1 hy with rfl | hy
        · exact h2
        · exact swoE.trans _ _ _ h2 (h'.1 y hy)
      · rename_i h2
        rw [risingE_cons]
        refine ⟨fun y hy => ?_, h'.2⟩
        have hk : key x = key e := by
          by_cases c : key x = key e
          · exact c
          · exact absurd (ltE_of (by simpa using h1) c) h2
        have := h'.1 y hy
        rw [ltE_def] at this ⊢
        rw [← hk]; exact this

theorem findE_putE {l : List Ent} (e : Ent) (h : risingE l = true) (c : List UInt8) : findE (putE l e) c = if key e = c then some e else findE l c := by
  induction l with
  | nil => rw [putE, findE_cons]
  | cons x l ih =>
    have h' := risingE_cons.1 h
    unfold putE
    split
    · rename_i h1
      rw [findE_cons, ih h'.2, findE_cons]
      by_cases e1 : key x = c
      · rw [if_pos e1, if_pos e1, if_neg (fun e2 => ltE_key _ _ h1 (e1.trans e2.symm))]
      · rw [if_neg e1, if_neg e1]
    · rename_i h1
      split
      · rw [findE_cons]
      · rename_i h2
        have hk : key x = key e := by
          by_cases c : key x = key e
          · exact c
          · exact absurd (ltE_of (by simpa using h1) c) h2
        rw [findE_cons, findE_cons]
        by_cases e1 : key e = c
        · rw [if_pos e1, if_pos e1]
        · rw [if_neg e1, if_neg e1, if_neg (fun e2 => e1 (hk ▸ e2))]

theorem putE_length (l : List Ent) (e : Ent) : (putE l e).length ≤ l.length + 1 := by
  induction l with
  | nil => simp [putE]
  | cons x l ih => unfold putE; split <;> (try split) <;> simp <;> omega

/-- The list with these entries. -/
def withT (l es : List Ent) : List Ent := es.foldl (fun l e => putE l (bare e)) l
/-- The last entry of each word. -/
def lastsT (es : List Ent) : List Ent := es.foldl putE []

theorem foldl_put_rising (f : Ent → Ent) : ∀ (es l : List Ent), risingE l = true → risingE (es.foldl (fun l e => putE l (f e)) l) = true
  | [], _, h => h
  | _ :: es, _, h => foldl_put_rising f es _ (putE_rising h _)

/-- The last one of some entries that has a word. -/
def lastOf (es : List Ent) (c : List UInt8) : Option Ent := findE es.reverse c

theorem foldl_put_find (f : Ent → Ent) (hf : ∀ e, key (f e) = key e) : ∀ (es l : List Ent) (c : List UInt8), risingE l = true →
    findE (es.foldl (fun l e => putE l (f e)) l) c = ((lastOf es c).map f).or (findE l c)
  | [], _, _, _ => rfl
  | e :: es, l, c, h => by
    rw [List.foldl_cons, foldl_put_find f hf es _ c (putE_rising h _), findE_putE _ h, hf]
    unfold lastOf
    rw [List.reverse_cons, findE_append, findE_cons, findE_nil]
    cases findE es.reverse c with
    | some x => rfl
    | none =>
      by_cases e1 : key e = c
      · rw [if_pos e1, if_pos e1]; rfl
      · rw [if_neg e1, if_neg e1]; rfl

theorem withT_rising {l : List Ent} (h : risingE l = true) (es : List Ent) : risingE (withT l es) = true := foldl_put_rising bare es l h
theorem findE_withT {l : List Ent} (h : risingE l = true) (es : List Ent) (c : List UInt8) : findE (withT l es) c = ((lastOf es c).map bare).or (findE l c) := foldl_put_find bare key_bare es l c h
theorem lastsT_rising (es : List Ent) : risingE (lastsT es) = true := foldl_put_rising id es [] rfl
theorem findE_lastsT (es : List Ent) (c : List UInt8) : findE (lastsT es) c = lastOf es c := by
  have := foldl_put_find id (fun _ => rfl) es [] c rfl
  simp only [id, findE_nil] at this
  unfold lastsT
  rw [this]
  cases lastOf es c <;> rfl

theorem withT_length (l es : List Ent) : (withT l es).length ≤ l.length + es.length := by
  unfold withT
  induction es generalizing l with
  | nil => simp
  | cons e es ih =>
    rw [List.foldl_cons, List.length_cons]
    have h1 := ih (putE l (bare e))
    have h2 := putE_length l (bare e)
    omega
theorem lastsT_length (es : List Ent) : (lastsT es).length ≤ es.length := by
  have : ∀ (es l : List Ent), (es.foldl putE l).length ≤ l.length + es.length := by
    intro es
    induction es with
    | nil => intro l; simp
    | cons e es ih =>
      intro l
      rw [List.foldl_cons, List.length_cons]
      have h1 := ih (putE l e)
      have h2 := putE_length l e
      omega
  have h := this es []
  rw [List.length_nil, Nat.zero_add] at h
  exact h

/-- All its gone entries weigh nothing. -/
def Bared (l : List Ent) : Prop := ∀ x ∈ l, bare x = x

theorem withT_bared {l : List Ent} (h : Bared l) (es : List Ent) : Bared (withT l es) := by
  unfold withT
  induction es generalizing l with
  | nil => exact h
  | cons e es ih =>
    rw [List.foldl_cons]
    refine ih fun x hx => ?_
    rcases mem_putE hx with rfl | hx
    · exact bare_bare e
    · exact h x hx

/-! ### Places, and two lists put together -/

/-- How many of the list's words are less. -/
def placeE (l : List Ent) (c : List UInt8) : Nat := (l.takeWhile fun x => Plain.less (key x) c).length
/-- Is the next one the word? -/
def isE (l : List Ent) (c : List UInt8) : Bool := (findE l c).isSome

theorem placeE_le (l : List Ent) (c : List UInt8) : placeE l c ≤ l.length := (List.takeWhile_sublist _).length_le

theorem placeE_nil (c : List UInt8) : placeE [] c = 0 := rfl
theorem placeE_cons (x : Ent) (l : List Ent) (c : List UInt8) : placeE (x :: l) c = if Plain.less (key x) c = true then placeE l c + 1 else 0 := by
  unfold placeE
  rw [List.takeWhile_cons]
  split <;> simp_all

theorem place_before {l : List Ent} (c : List UInt8) : ∀ x ∈ l.take (placeE l c), Plain.less (key x) c = true := by
  induction l with
  | nil => simp
  | cons y l ih =>
    rw [placeE_cons]
    split
    · rename_i h
      rw [List.take_succ_cons]
      intro x hx
      rcases List.mem_cons.1 hx with rfl | hx
      · exact h
      · exact ih x hx
    · simp

theorem place_behind {l : List Ent} (h : risingE l = true) (c : List UInt8) : ∀ x ∈ l.drop (placeE l c), Plain.less (key x) c = false := by
  induction l with
  | nil => simp
  | cons y l ih =>
    have h' := risingE_cons.1 h
    rw [placeE_cons]
    split
    · rw [List.drop_succ_cons]
      exact ih h'.2
    · rename_i h1
      rw [List.drop_zero]
      intro x hx
      rcases List.mem_cons.1 hx with rfl | hx
      · simpa using h1
      · cases g : Plain.less (key x) c with
        | false => rfl
        | true => exact absurd (Plain.less_trans _ _ _ (h'.1 x hx) g) h1

/-- The word is in the list just if it is the next one. -/
theorem place_is {l : List Ent} (h : risingE l = true) (c : List UInt8) : isE l c = true ↔ ∃ hp : placeE l c < l.length, key l[placeE l c] = c := by
  induction l with
  | nil => simp [isE, findE_nil]
  | cons y l ih =>
    have h' := risingE_cons.1 h
    unfold isE at ih ⊢
    rw [findE_cons]
    by_cases h1 : Plain.less (key y) c = true
    · have hp : placeE (y :: l) c = placeE l c + 1 := by rw [placeE_cons, if_pos h1]
      rw [if_neg (Plain.less_ne h1), ih h'.2]
      constructor
      · rintro ⟨hp', hk⟩
        exact ⟨by rw [hp]; simp; omega, by simpa [hp] using hk⟩
      · rintro ⟨hp', hk⟩
        rw [hp] at hp'
        exact ⟨by simp at hp'; omega, by simpa [hp] using hk⟩
    · have hp : placeE (y :: l) c = 0 := by rw [placeE_cons, if_neg h1]
      by_cases h2 : key y = c
      · rw [if_pos h2]
        simp [hp, h2]
      · rw [if_neg h2]
        constructor
        · intro h3
          exfalso
          obtain ⟨x, hx⟩ := Option.isSome_iff_exists.1 h3
          have := findE_some hx
          have h4 := h'.1 x this.1
          rw [ltE_def, this.2] at h4
          exact h1 h4
        · rintro ⟨_, hk⟩
          exact absurd (by simpa [hp] using hk) h2

theorem findE_at {l : List Ent} (h : risingE l = true) (c : List UInt8) (hi : isE l c = true) : ∃ hp : placeE l c < l.length, findE l c = some l[placeE l c] ∧ key l[placeE l c] = c := by
  obtain ⟨hp, hk⟩ := (place_is h c).1 hi
  refine ⟨hp, ?_, hk⟩
  have := findE_mem h (List.getElem_mem hp)
  rwa [hk] at this

/-- Two lists put together: of a word that both have the second one's entry counts. -/
def mergeE : List Ent → List Ent → List Ent
  | l, [] => l
  | l, x :: m => l.take (placeE l (key x)) ++ x :: mergeE (l.drop (if isE l (key x) = true then placeE l (key x) + 1 else placeE l (key x))) m

theorem mem_mergeE : ∀ {m l : List Ent} {x : Ent}, x ∈ mergeE l m → x ∈ l ∨ x ∈ m
  | [], _, _, h => .inl h
  | y :: m, l, x, h => by
    unfold mergeE at h
    rcases List.mem_append.1 h with h | h
    · exact .inl (List.mem_of_mem_take h)
    · rcases List.mem_cons.1 h with rfl | h
      · exact .inr (List.mem_cons_self ..)
      · rcases mem_mergeE h with h | h
        · exact .inl (List.mem_of_mem_drop h)
        · exact .inr (List.mem_cons_of_mem _ h)

/-- What is behind the place, but for the word itself, is greater. -/
theorem behind_greater {l : List Ent} (h : risingE l = true) (x : Ent) : ∀ y ∈ l.drop (if isE l (key x) = true then placeE l (key x) + 1 else placeE l (key x)), ltE x y = true := by
  intro y hy
  have hy0 : y ∈ l.drop (placeE l (key x)) := by
    split at hy
    · rw [← List.drop_drop] at hy; exact List.mem_of_mem_drop hy
    · exact hy
  have h1 := place_behind h (key x) y hy0
  refine ltE_of h1 fun hk => ?_
  have hi : isE l (key x) = true := by
    unfold isE
    have := findE_mem h (List.mem_of_mem_drop hy0)
    rw [hk] at this
    rw [this]; rfl
  rw [if_pos hi] at hy
  obtain ⟨hp, h2, h3⟩ := findE_at h (key x) hi
  have h4 : l.drop (placeE l (key x)) = l[placeE l (key x)] :: l.drop (placeE l (key x) + 1) := List.drop_eq_getElem_cons hp
  have h5 := risingE_drop h (placeE l (key x))
  rw [h4, risingE_cons] at h5
  have h6 := h5.1 y hy
  exact ltE_key _ _ h6 (h3.trans hk.symm)

theorem mergeE_rising : ∀ {m l : List Ent}, risingE l = true → risingE m = true → risingE (mergeE l m) = true
  | [], _, h, _ => h
  | x :: m, l, hl, hm => by
    have hm' := risingE_cons.1 hm
    have hd := risingE_drop hl (if isE l (key x) = true then placeE l (key x) + 1 else placeE l (key x))
    have hx : ∀ y ∈ mergeE (l.drop (if isE l (key x) = true then placeE l (key x) + 1 else placeE l (key x))) m, ltE x y = true := fun y hy => by
      rcases mem_mergeE hy with hy | hy
      · exact behind_greater hl x y hy
      · exact hm'.1 y hy
    unfold mergeE
    rw [risingE_append, risingE_cons]
    refine ⟨risingE_take hl _, ⟨hx, mergeE_rising hd hm'.2⟩, fun y hy z hz => ?_⟩
    have h1 : ltE y x = true := place_before (key x) y hy
    rcases List.mem_cons.1 hz with rfl | hz
    · exact h1
    · exact swoE.trans _ _ _ h1 (hx z hz)

theorem findE_mergeE : ∀ {m l : List Ent} (c : List UInt8), risingE l = true → risingE m = true → findE (mergeE l m) c = (findE m c).or (findE l c)
  | [], _, _, _, _ => rfl
  | x :: m, l, c, hl, hm => by
    have hm' := risingE_cons.1 hm
    have hd := risingE_drop hl (if isE l (key x) = true then placeE l (key x) + 1 else placeE l (key x))
    unfold mergeE
    rw [findE_append, findE_cons, findE_mergeE c hd hm'.2, findE_cons]
    by_cases e : key x = c
    · rw [if_pos e, if_pos e, findE_none.2 fun y hy => by rw [← e]; exact ltE_key _ _ (show ltE y x = true from place_before (key x) y hy)]
      rfl
    · rw [if_neg e, if_neg e]
      -- of another word the place says nothing
      have h1 : findE l c = (findE (l.take (placeE l (key x))) c).or (findE (l.drop (if isE l (key x) = true then placeE l (key x) + 1 else placeE l (key x))) c) := by
        by_cases hi : isE l (key x) = true
        · rw [if_pos hi]
          obtain ⟨hp, _, h3⟩ := findE_at hl (key x) hi
          conv => lhs; rw [← List.take_append_drop (placeE l (key x)) l, List.drop_eq_getElem_cons hp]
          rw [findE_append, findE_cons, if_neg (by rw [h3]; exact e)]
        · rw [if_neg hi]
          conv => lhs; rw [← List.take_append_drop (placeE l (key x)) l]
          rw [findE_append]
      rw [h1]
      cases hA : findE (l.take (placeE l (key x))) c with
      | none => rfl
      | some y =>
        -- ahead of x: no word of m
        have hy := findE_some hA
        have h2 : findE m c = none := findE_none.2 fun z hz => by
          have h3 : ltE y x = true := place_before (key x) y hy.1
          rw [← hy.2]
          exact (ltE_key _ _ (swoE.trans _ _ _ h3 (hm'.1 z hz))).symm
        rw [h2]; rfl

theorem findE_map_bare (l : List Ent) (c : List UInt8) : findE (l.map bare) c = (findE l c).map bare := by
  induction l with
  | nil => rfl
  | cons x l ih =>
    rw [List.map_cons, findE_cons, findE_cons, key_bare, ih]
    split <;> rfl
theorem risingE_map_bare (l : List Ent) : risingE (l.map bare) = risingE l := by
  induction l with
  | nil => rfl
  | cons x l ih =>
    cases l with
    | nil => rfl
    | cons y l =>
      rw [List.map_cons, List.map_cons] at *
      unfold risingE
      rw [ih, ltE_def, ltE_def, key_bare, key_bare]

/-- The last entry of each word, put together with the list, with no weight where gone: the list with the entries, one behind the other. -/
theorem merge_with {l : List Ent} (h : risingE l = true) (hb : Bared l) (es : List Ent) : (mergeE l (lastsT es)).map bare = withT l es := by
  refine risingE_ext (by rw [risingE_map_bare]; exact mergeE_rising h (lastsT_rising es)) (withT_rising h es) fun c => ?_
  rw [findE_map_bare, findE_mergeE c h (lastsT_rising es), findE_lastsT, findE_withT h]
  cases lastOf es c with
  | some x => rfl
  | none =>
    show (findE l c).map bare = findE l c
    cases hf : findE l c with
    | none => rfl
    | some x => rw [Option.map_some, hb x (findE_some hf).1]

/-! ### Each word once -/

def dropFrom (p : List UInt8) : List Ent → List Ent
  | [] => []
  | y :: l => if key y = p then dropFrom p l else y :: dropFrom (key y) l
def onceE : List Ent → List Ent
  | [] => []
  | x :: l => x :: dropFrom (key x) l

def lastKey (p : List UInt8) : List Ent → List UInt8
  | [] => p
  | y :: l => lastKey (key y) l

theorem lastKey_snoc (p : List UInt8) (l : List Ent) (y : Ent) : lastKey p (l ++ [y]) = key y := by
  induction l generalizing p with
  | nil => rfl
  | cons x l ih => exact ih _
theorem dropFrom_snoc (p : List UInt8) (l : List Ent) (y : Ent) : dropFrom p (l ++ [y]) = dropFrom p l ++ if key y = lastKey p l then [] else [y] := by
  induction l generalizing p with
  | nil =>
    show dropFrom p [y] = [] ++ _
    unfold dropFrom lastKey
    split <;> rfl
  | cons x l ih =>
    rw [List.cons_append]
    unfold dropFrom lastKey
    by_cases h : key x = p
    · rw [if_pos h, if_pos h, ih, h]
    · rw [if_neg h, if_neg h, ih]; rfl

/-- One more element: it stays if its word is another one than that ahead. -/
theorem onceE_next (l : List Ent) (k : Nat) (hk : 0 < k) (hkl : k < l.length) : onceE (l.take (k + 1)) = if key l[k] = key (l[k - 1]'(by omega)) then onceE (l.take k) else onceE (l.take k) ++ [l[k]] := by
  obtain ⟨x, r, rfl⟩ : ∃ x r, l = x :: r := by
    cases l with
    | nil => simp at hkl
    | cons x r => exact ⟨x, r, rfl⟩
  obtain ⟨j, rfl⟩ : ∃ j, k = j + 1 := ⟨k - 1, by omega⟩
  have hj : j < r.length := by simpa using hkl
  rw [List.take_succ_cons, List.take_succ_cons, List.take_succ_eq_append_getElem hj]
  rw [show onceE (x :: (r.take j ++ [r[j]])) = x :: dropFrom (key x) (r.take j ++ [r[j]]) from rfl, show onceE (x :: r.take j) = x :: dropFrom (key x) (r.take j) from rfl, dropFrom_snoc]
  have hl : lastKey (key x) (r.take j) = key ((x :: r)[j + 1 - 1]'(by simp; omega)) := by
    cases j with
    | zero => rfl
    | succ i =>
      rw [List.take_succ_eq_append_getElem (by omega), lastKey_snoc]
      simp
  rw [hl]
  simp only [List.getElem_cons_succ]
  split <;> simp

theorem findE_dropFrom (p : List UInt8) (l : List Ent) (c : List UInt8) (h : p ≠ c) : findE (dropFrom p l) c = findE l c := by
  induction l generalizing p with
  | nil => rfl
  | cons y l ih =>
    unfold dropFrom
    by_cases e : key y = p
    · rw [if_pos e, ih p h, findE_cons, if_neg (by rw [e]; exact h)]
    · rw [if_neg e, findE_cons, findE_cons]
      by_cases e2 : key y = c
      · rw [if_pos e2, if_pos e2]
      · rw [if_neg e2, if_neg e2, ih _ e2]
theorem findE_onceE (l : List Ent) (c : List UInt8) : findE (onceE l) c = findE l c := by
  cases l with
  | nil => rfl
  | cons x l =>
    unfold onceE
    rw [findE_cons, findE_cons]
    by_cases e : key x = c
    · rw [if_pos e, if_pos e]
    · rw [if_neg e, if_neg e, findE_dropFrom _ _ _ e]

theorem dropFrom_rising (x : Ent) (l : List Ent) (h : (x :: l).Pairwise fun a b => ltE b a = false) : risingE (x :: dropFrom (key x) l) = true := by
  induction l generalizing x with
  | nil => rfl
  | cons y l ih =>
    have hx := List.pairwise_cons.1 h
    have hy := List.pairwise_cons.1 hx.2
    unfold dropFrom
    by_cases e : key y = key x
    · rw [if_pos e]
      exact ih x (List.pairwise_cons.2 ⟨fun z hz => hx.1 z (List.mem_cons_of_mem _ hz), hy.2⟩)
    · rw [if_neg e]
      have h1 := ih y hx.2
      rw [risingE, Bool.and_eq_true]
      exact ⟨ltE_of (hx.1 y (List.mem_cons_self ..)) e, h1⟩
theorem onceE_rising (l : List Ent) (h : l.Pairwise fun a b => ltE b a = false) : risingE (onceE l) = true := by
  cases l with
  | nil => rfl
  | cons x l => exact dropFrom_rising x l h

/-- Sorted, and each word's entries in the reverse order: with each word once it is the last entry of each word. -/
theorem once_lasts (es : List Ent) (d : Array Ent) (hs : SortedIn ltE 0 d.size d) (hst : Stab key es.reverse.toArray d) : onceE d.toList = lastsT es := by
  refine risingE_ext (onceE_rising _ ?_) (lastsT_rising es) fun c => ?_
  · rw [List.pairwise_iff_getElem]
    intro i j hi hj hij
    have := hs i j (Nat.zero_le _) hij (by simpa using hj)
    simpa [getElem!_pos d i (by simpa using hi), getElem!_pos d j (by simpa using hj)] using this
  · rw [findE_onceE, findE_lastsT, findE_filter, hst.2 c]
    unfold lastOf
    rw [findE_filter]

end Go.Proofs.Ytfnmmnbndfdpiaa

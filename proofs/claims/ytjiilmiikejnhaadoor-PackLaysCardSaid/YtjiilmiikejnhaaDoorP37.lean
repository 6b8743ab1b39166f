/-
  Contracts of what looks at texts alone: which one is less, what is a word; the program's and the document's. Entries, and lists of them, in plain words: their order, what a list says of a word, an entry put into a list, places.
-/
import Derived.Test.YtjiilmiikejnhaaDoorP04
import Derived.Test.YtjiilmiikejnhaaDoorP18
set_option linter.unusedVariables false
set_option linter.unusedSimpArgs false
namespace Go.Proofs.YtjiilmiikejnhaaDoor.Ev
open Go.RowKit

/-- Is the first text less? -/
def lessT (a b : ByteArray) : Bool := Plain.less a.data.toList b.data.toList
/-- How many bytes two texts share. -/
def sharedT (a b : ByteArray) : Nat := Plain.shared a.data.toList b.data.toList
/-- Is it a word? -/
def wordT (a : ByteArray) : Bool := Plain.isWord a.data.toList

theorem bytesLess_less : ∀ x y : List UInt8, Op.bytesLess x y = Plain.less x y
  | [], [] => by simp [Plain.less, Op.bytesLess]
  | [], _ :: _ => by simp [Plain.less, Op.bytesLess]
  | _ :: _, [] => by simp [Plain.less, Op.bytesLess]
  | a :: x, b :: y => by
    unfold Plain.less Op.bytesLess
    rw [bytesLess_less x y]
    by_cases h : a = b
    · subst h
      simp
    · rw [if_neg h, Bool.eq_iff_iff]
      simp [h, UInt8.lt_iff_toNat_lt]

theorem sharedT_le_left (a b : ByteArray) : sharedT a b ≤ a.size := by rw [← ba_length]; exact Plain.shared_le_left _ _
theorem sharedT_le_right (a b : ByteArray) : sharedT a b ≤ b.size := by rw [← ba_length]; exact Plain.shared_le_right _ _

theorem sharedT_step {a b : ByteArray} {k : Nat} (h1 : k < a.size) (h2 : k < b.size) (h3 : k ≤ sharedT a b) (h4 : a[k] = b[k]) : k + 1 ≤ sharedT a b := by
  refine Plain.shared_step _ _ k (by rw [ba_length]; exact h1) (by rw [ba_length]; exact h2) h3 ?_
  rw [byte_getD a k h1, byte_getD b k h2, h4]

theorem sharedT_stop {a b : ByteArray} {k : Nat} (h1 : k < a.size) (h2 : k < b.size) (h3 : k ≤ sharedT a b) (h4 : a[k] ≠ b[k]) : k = sharedT a b := by
  rcases Nat.lt_or_ge k (sharedT a b) with h | h
  · exfalso
    unfold sharedT at h
    have e := Plain.shared_take a.data.toList b.data.toList
    have e1 := congrArg (fun l => l.getD k 0) e
    rw [take_getD _ _ _ h, take_getD _ _ _ h, byte_getD a k h1, byte_getD b k h2] at e1
    exact h4 e1
  · omega

theorem sharedT_end {a b : ByteArray} {k : Nat} (h : a.size ≤ k ∨ b.size ≤ k) (h3 : k ≤ sharedT a b) : k = sharedT a b := by
  have := sharedT_le_left a b
  have := sharedT_le_right a b
  omega

theorem byte_ne {x y : UInt8} (h : x ≠ y) : (((x.toNat : Int)) != (y.toNat : Int)) = true := by
  rw [bne_iff_ne]
  intro e
  exact h (UInt8.toNat_inj.1 (by omega))
theorem byte_nbeq {x y : UInt8} (h : x ≠ y) : (((x.toNat : Int)) == (y.toNat : Int)) = false := by
  rw [beq_eq_false_iff_ne]
  intro e
  exact h (UInt8.toNat_inj.1 (by omega))

set_option maxHeartbeats 400000 in
theorem lessT_eq (a b : ByteArray) : lessT a b = if sharedT a b = a.size then decide (sharedT a b < b.size) else decide (sharedT a b < b.size) && decide ((a.data.toList.getD (sharedT a b) 0).toNat < (b.data.toList.getD (sharedT a b) 0).toNat) := by
  unfold lessT sharedT
  rw [Plain.less_eq, ba_length, ba_length]

/-! ### Words -/

theorem wordT_true {a : ByteArray} (h : wordT a = true) : 1 ≤ a.size ∧ a.size ≤ 255 := by
  unfold wordT Plain.isWord at h
  have := of_decide_eq_true h
  rw [ba_length] at this
  exact this
theorem wordT_false {a : ByteArray} (h : wordT a = false) : a.size = 0 ∨ 255 < a.size := by
  unfold wordT Plain.isWord at h
  have := of_decide_eq_false h
  rw [ba_length] at this
  omega

theorem refIs_any (a : ByteArray) (w : World) (ha : a.size ≤ 9223372036854775807) : Calls Tryd.prog 91 #[.string a] w fun e w' => e = .returned (.bool (wordT a)) ∧ w = w' := by
  obtain ⟨r, hr⟩ : ∃ r, wordT a = r := ⟨_, rfl⟩
  rw [hr]
  cases r
  · rcases wordT_false hr with h | h
    · have d1 : ¬ 1 ≤ (a.size : Int) := by omega
      clear hr h
      go_enter Tryd.func91, Tryd.ntmps91
      go_wp2
      go_ret
      exact ⟨rfl, rfl⟩
    · have d1 : 1 ≤ (a.size : Int) := by omega
      have d2 : ¬ (a.size : Int) ≤ 255 := by omega
      clear hr h
      go_enter Tryd.func91, Tryd.ntmps91
      go_wp2
      go_ret
      exact ⟨rfl, rfl⟩
  · obtain ⟨h1, h2⟩ := wordT_true hr
    have d2 : decide ((a.size : Int) ≤ 255) = true := decide_eq_true (by omega)
    clear hr
    go_enter Tryd.func91, Tryd.ntmps91
    go_wp2
    go_ret
    exact ⟨rfl, rfl⟩

end Go.Proofs.YtjiilmiikejnhaaDoor.Ev
namespace Go.Proofs.YtjiilmiikejnhaaDoor.Ev

/-- An entry: a word, its weight, whether it is gone. -/
structure Ent where
  word : ByteArray
  weight : Nat
  gone : Bool

instance : Inhabited Ent := ⟨⟨⟨#[]⟩, 0, false⟩⟩

/-- Its cells. -/
def enc (e : Ent) : List Value := [.string e.word, .int .u32 (e.weight : Int), .bool e.gone]
/-- Its word's bytes. -/
def key (e : Ent) : List UInt8 := e.word.data.toList
/-- Is its word less? -/
def ltE (a b : Ent) : Bool := lessT a.word b.word
/-- Below 0, 0, or above 0. -/
def ordT (a b : ByteArray) : Int := if lessT a b = true then -1 else if lessT b a = true then 1 else 0
def cfE (a b : Ent) : Int := ordT a.word b.word
/-- An entry that is gone weighs nothing. -/
def bare (e : Ent) : Ent := if e.gone = true then ⟨e.word, 0, e.gone⟩ else e

theorem ltE_def (a b : Ent) : ltE a b = Plain.less (key a) (key b) := rfl
theorem key_bare (e : Ent) : key (bare e) = key e := by unfold bare; split <;> rfl
theorem bare_bare (e : Ent) : bare (bare e) = bare e := by unfold bare; cases h : e.gone <;> simp [h]
theorem gone_bare (e : Ent) : (bare e).gone = e.gone := by unfold bare; split <;> simp_all

theorem key_word {a b : Ent} (h : key a = key b) : a.word = b.word := ByteArray.ext (Array.toList_inj.1 h)

theorem ordT_neg (a b : ByteArray) : decide (ordT a b < 0) = lessT a b := by
  unfold ordT
  cases h : lessT a b
  · rw [if_neg (by simp)]
    by_cases h2 : lessT b a = true
    · rw [if_pos h2]; rfl
    · rw [if_neg h2]; rfl
  · rw [if_pos rfl]; rfl

theorem less_ntrans (x y z : List UInt8) (h1 : Plain.less x y = false) (h2 : Plain.less y z = false) : Plain.less x z = false := by
  cases h : Plain.less x z with
  | false => rfl
  | true =>
    by_cases e : x = y
    · subst e; rw [h] at h2; cases h2
    · rcases Plain.less_total x y e with g | g
      · rw [g] at h1; cases h1
      · have := Plain.less_trans y x z g h
        rw [this] at h2; cases h2

theorem ltE_irrefl (x : Ent) : ltE x x = false := Plain.less_irrefl _
theorem ltE_trans {x y z : Ent} (h1 : ltE x y = true) (h2 : ltE y z = true) : ltE x z = true := Plain.less_trans _ _ _ h1 h2

theorem ltE_key (x y : Ent) (h : ltE x y = true) : key x ≠ key y := Plain.less_ne h

theorem ltE_of {x y : Ent} (h1 : ltE x y = false) (h2 : key x ≠ key y) : ltE y x = true := by
  rcases Plain.less_total _ _ h2 with g | g
  · have : ltE x y = true := g
    rw [this] at h1; cases h1
  · exact g

/-! ### Lists by rising words -/

def risingE : List Ent → Bool
  | [] => true
  | [_] => true
  | x :: y :: l => ltE x y && risingE (y :: l)

theorem risingE_cons {x : Ent} {l : List Ent} : risingE (x :: l) = true ↔ (∀ y ∈ l, ltE x y = true) ∧ risingE l = true := by
  induction l generalizing x with
  | nil => simp [risingE]
  | cons y l ih =>
    rw [show risingE (x :: y :: l) = (ltE x y && risingE (y :: l)) from rfl, Bool.and_eq_true]
    constructor
    · rintro ⟨h1, h2⟩
      refine ⟨fun z hz => ?_, h2⟩
      rcases List.mem_cons.1 hz with rfl | hz
      · exact h1
      · exact ltE_trans h1 ((ih.1 h2).1 z hz)
    · rintro ⟨h1, h2⟩
      exact ⟨h1 y (List.mem_cons_self ..), h2⟩

theorem risingE_append {a b : List Ent} : risingE (a ++ b) = true ↔ risingE a = true ∧ risingE b = true ∧ ∀ x ∈ a, ∀ y ∈ b, ltE x y = true := by
  induction a with
  | nil => simp [risingE]
  | cons z a ih =>
    rw [List.cons_append, risingE_cons, risingE_cons, ih]
    constructor
    · rintro ⟨h1, h2, h3, h4⟩
      refine ⟨⟨fun y hy => h1 y (List.mem_append_left _ hy), h2⟩, h3, fun x hx y hy => ?_⟩
      rcases List.mem_cons.1 hx with rfl | hx
      · exact h1 y (List.mem_append_right _ hy)
      · exact h4 x hx y hy
    · rintro ⟨⟨h1, h2⟩, h3, h4⟩
      refine ⟨fun y hy => ?_, h2, h3, fun x hx y hy => h4 x (List.mem_cons_of_mem _ hx) y hy⟩
      rcases List.mem_append.1 hy with hy | hy
      · exact h1 y hy
      · exact h4 z (List.mem_cons_self ..) y hy

theorem risingE_take {l : List Ent} (h : risingE l = true) (n : Nat) : risingE (l.take n) = true := by
  rw [← List.take_append_drop n l, risingE_append] at h
  exact h.1
theorem risingE_drop {l : List Ent} (h : risingE l = true) (n : Nat) : risingE (l.drop n) = true := by
  rw [← List.take_append_drop n l, risingE_append] at h
  exact h.2.1

/-- What a list says of a word. -/
def findE (l : List Ent) (c : List UInt8) : Option Ent := l.find? fun x => decide (key x = c)

theorem findE_nil (c : List UInt8) : findE [] c = none := rfl
theorem findE_cons (x : Ent) (l : List Ent) (c : List UInt8) : findE (x :: l) c = if key x = c then some x else findE l c := by
  unfold findE
  rw [List.find?_cons]
  by_cases h : key x = c
  · rw [decide_eq_true h, if_pos h]
  · rw [decide_eq_false h, if_neg h]
theorem findE_append (a b : List Ent) (c : List UInt8) : findE (a ++ b) c = (findE a c).or (findE b c) := List.find?_append
theorem findE_none {l : List Ent} {c : List UInt8} : findE l c = none ↔ ∀ x ∈ l, key x ≠ c := by
  unfold findE
  rw [List.find?_eq_none]
  simp
theorem findE_some {l : List Ent} {c : List UInt8} {x : Ent} (h : findE l c = some x) : x ∈ l ∧ key x = c :=
  ⟨List.mem_of_find?_eq_some h, by simpa using List.find?_some h⟩
theorem findE_filter (l : List Ent) (c : List UInt8) : findE l c = (l.filter fun x => decide (key x = c)).head? := by
  unfold findE; rw [List.head?_filter]
theorem findE_mem {l : List Ent} (h : risingE l = true) {x : Ent} (hx : x ∈ l) : findE l (key x) = some x := by
  induction l with
  | nil => cases hx
  | cons y l ih =>
    rw [findE_cons]
    rw [risingE_cons] at h
    rcases List.mem_cons.1 hx with rfl | hx
    · rw [if_pos rfl]
    · rw [if_neg (ltE_key _ _ (h.1 x hx)), ih h.2 hx]

/-- Lists by rising words that say the same of each word are one. -/
theorem risingE_ext : ∀ {a b : List Ent}, risingE a = true → risingE b = true → (∀ c, findE a c = findE b c) → a = b
  | [], [], _, _, _ => rfl
  | [], y :: b, _, _, h => by have := h (key y); rw [findE_cons, if_pos rfl] at this; cases this
  | x :: a, [], _, _, h => by have := h (key x); rw [findE_cons, if_pos rfl] at this; cases this
  | x :: a, y :: b, ha, hb, h => by
    have ha' := risingE_cons.1 ha
    have hb' := risingE_cons.1 hb
    have hk : key x = key y := by
      by_cases e : key x = key y
      · exact e
      · exfalso
        have h1 := h (key x)
        have h2 := h (key y)
        rw [findE_cons, if_pos rfl, findE_cons, if_neg (Ne.symm e)] at h1
        rw [findE_cons, if_neg e, findE_cons, if_pos rfl] at h2
        have g1 := findE_some h1.symm
        have g2 := findE_some h2
        have := ltE_trans (ha'.1 y g2.1) (hb'.1 x g1.1)
        rw [ltE_irrefl] at this
        cases this
    have hxy : x = y := by
      have := h (key x)
      rw [findE_cons, if_pos rfl, findE_cons, if_pos hk.symm] at this
      exact Option.some.inj this
    subst hxy
    refine congrArg _ (risingE_ext ha'.2 hb'.2 fun c => ?_)
    by_cases e : key x = c
    · rw [findE_none.2 fun z hz => e ▸ (ltE_key _ _ (ha'.1 z hz)).symm, findE_none.2 fun z hz => e ▸ (ltE_key _ _ (hb'.1 z hz)).symm]
    · have := h c
      rwa [findE_cons, if_neg e, findE_cons, if_neg e] at this

/-! ### An entry put into a list -/

def putE : List Ent → Ent → List Ent
  | [], e => [e]
  | x :: l, e => if ltE x e = true then x :: putE l e else if ltE e x = true then e :: x :: l else e :: l

theorem mem_putE {l : List Ent} {e x : Ent} (h : x ∈ putE l e) : x = e ∨ x ∈ l := by
  induction l with
  | nil => simp [putE] at h; exact .inl h
  | cons y l ih =>
    unfold putE at h
    split at h
    · rcases List.mem_cons.1 h with rfl | h
      · exact .inr (List.mem_cons_self ..)
      · rcases ih h with h | h
        · exact .inl h
        · exact .inr (List.mem_cons_of_mem _ h)
    · split at h
      · rcases List.mem_cons.1 h with rfl | h
        · exact .inl rfl
        · exact .inr h
      · rcases List.mem_cons.1 h with rfl | h
        · exact .inl rfl
        · exact .inr (List.mem_cons_of_mem _ h)

theorem putE_rising {l : List Ent} (h : risingE l = true) (e : Ent) : risingE (putE l e) = true := by
  induction l with
  | nil => rfl
  | cons x l ih =>
    have h' := risingE_cons.1 h
    unfold putE
    split
    · rename_i h1
      rw [risingE_cons]
      refine ⟨fun y hy => ?_, ih h'.2⟩
      rcases mem_putE hy with rfl | hy
      · exact h1
      · exact h'.1 y hy
    · rename_i h1
      split
      · rename_i h2
        rw [risingE_cons]
        refine ⟨fun y hy => ?_, h⟩
        rcases List.mem_cons.1 hy with rfl | hy
        · exact h2
        · exact ltE_trans h2 (h'.1 y hy)
      · rename_i h2
        rw [risingE_cons]
        refine ⟨fun y hy => ?_, h'.2⟩
        have hk : key x = key e := by
          by_cases c : key x = key e
          · exact c
          · exact absurd (ltE_of (by simpa using h1) c) h2
        have := h'.1 y hy
        rw [ltE_def] at this ⊢
        rw [← hk]; exact this

theorem findE_putE {l : List Ent} (e : Ent) (h : risingE l = true) (c : List UInt8) : findE (putE l e) c = if key e = c then some e else findE l c := by
  induction l with
  | nil => rw [putE, findE_cons]
  | cons x l ih =>
    have h' := risingE_cons.1 h
    unfold putE
    split
    · rename_i h1
      rw [findE_cons, ih h'.2, findE_cons]
      by_cases e1 : key x = c
      · rw [if_pos e1, if_pos e1, if_neg (fun e2 => ltE_key _ _ h1 (e1.trans e2.symm))]
      · rw [if_neg e1, if_neg e1]
    · rename_i h1
      split
      · rw [findE_cons]
      · rename_i h2
        have hk : key x = key e := by
          by_cases c : key x = key e
          · exact c
          · exact absurd (ltE_of (by simpa using h1) c) h2
        rw [findE_cons, findE_cons]
        by_cases e1 : key e = c
        · rw [if_pos e1, if_pos e1]
        · rw [if_neg e1, if_neg e1, if_neg (fun e2 => e1 (hk ▸ e2))]

theorem putE_length (l : List Ent) (e : Ent) : (putE l e).length ≤ l.length + 1 := by
  induction l with
  | nil => simp [putE]
  | cons x l ih => unfold putE; split <;> (try split) <;> simp <;> omega

/-- All its gone entries weigh nothing. -/
def Bared (l : List Ent) : Prop := ∀ x ∈ l, bare x = x

/-! ### Places -/

/-- How many of the list's words are less. -/
def placeE (l : List Ent) (c : List UInt8) : Nat := (l.takeWhile fun x => Plain.less (key x) c).length
/-- Is the next one the word? -/
def isE (l : List Ent) (c : List UInt8) : Bool := (findE l c).isSome

theorem placeE_le (l : List Ent) (c : List UInt8) : placeE l c ≤ l.length := (List.takeWhile_sublist _).length_le

theorem placeE_nil (c : List UInt8) : placeE [] c = 0 := rfl
theorem placeE_cons (x : Ent) (l : List Ent) (c : List UInt8) : placeE (x :: l) c = if Plain.less (key x) c = true then placeE l c + 1 else 0 := by
  unfold placeE
  rw [List.takeWhile_cons]
  split <;> simp_all

theorem place_before {l : List Ent} (c : List UInt8) : ∀ x ∈ l.take (placeE l c), Plain.less (key x) c = true := by
  induction l with
  | nil => simp
  | cons y l ih =>
    rw [placeE_cons]
    split
    · rename_i h
      rw [List.take_succ_cons]
      intro x hx
      rcases List.mem_cons.1 hx with rfl | hx
      · exact h
      · exact ih x hx
    · simp

theorem place_behind {l : List Ent} (h : risingE l = true) (c : List UInt8) : ∀ x ∈ l.drop (placeE l c), Plain.less (key x) c = false := by
  induction l with
  | nil => simp
  | cons y l ih =>
    have h' := risingE_cons.1 h
    rw [placeE_cons]
    split
    · rw [List.drop_succ_cons]
      exact ih h'.2
    · rename_i h1
      rw [List.drop_zero]
      intro x hx
      rcases List.mem_cons.1 hx with rfl | hx
      · simpa using h1
      · cases g : Plain.less (key x) c with
        | false => rfl
        | true => exact absurd (Plain.less_trans _ _ _ (h'.1 x hx) g) h1

/-- The word is in the list just if it is the next one. -/
theorem place_is {l : List Ent} (h : risingE l = true) (c : List UInt8) : isE l c = true ↔ ∃ hp : placeE l c < l.length, key l[placeE l c] = c := by
  induction l with
  | nil => simp [isE, findE_nil]
  | cons y l ih =>
    have h' := risingE_cons.1 h
    unfold isE at ih ⊢
    rw [findE_cons]
    by_cases h1 : Plain.less (key y) c = true
    · have hp : placeE (y :: l) c = placeE l c + 1 := by rw [placeE_cons, if_pos h1]
      rw [if_neg (Plain.less_ne h1), ih h'.2]
      constructor
      · rintro ⟨hp', hk⟩
        exact ⟨by rw [hp]; simp; omega, by simpa [hp] using hk⟩
      · rintro ⟨hp', hk⟩
        rw [hp] at hp'
        exact ⟨by simp at hp'; omega, by simpa [hp] using hk⟩
    · have hp : placeE (y :: l) c = 0 := by rw [placeE_cons, if_neg h1]
      by_cases h2 : key y = c
      · rw [if_pos h2]
        simp [hp, h2]
      · rw [if_neg h2]
        constructor
        · intro h3
          exfalso
          obtain ⟨x, hx⟩ := Option.isSome_iff_exists.1 h3
          have := findE_some hx
          have h4 := h'.1 x this.1
          rw [ltE_def, this.2] at h4
          exact h1 h4
        · rintro ⟨_, hk⟩
          exact absurd (by simpa [hp] using hk) h2

theorem findE_at {l : List Ent} (h : risingE l = true) (c : List UInt8) (hi : isE l c = true) : ∃ hp : placeE l c < l.length, findE l c = some l[placeE l c] ∧ key l[placeE l c] = c := by
  obtain ⟨hp, hk⟩ := (place_is h c).1 hi
  refine ⟨hp, ?_, hk⟩
  have := findE_mem h (List.getElem_mem hp)
  rwa [hk] at this
end Go.Proofs.YtjiilmiikejnhaaDoor.Ev

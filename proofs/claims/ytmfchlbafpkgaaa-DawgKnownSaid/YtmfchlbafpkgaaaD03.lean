/-
  Contracts of what looks at texts alone: which one is less, what is a word; the program's and the document's. Entries, and lists of them, in plain words: their order, what a list says of a word, an entry put into a list, places. Plain mathematics of a transducer that is made. Tries in plain words: what stands at a row of bytes, what is put, all entries by rising words, what stands under a beginning. Nothing of the program stands here. The nodes of a trie by rising rows; tries that are neither deep nor wide.
-/
import Derived.Test.YtmfchlbafpkgaaaD01
import Derived.Test.YtmfchlbafpkgaaaD02
set_option linter.unusedVariables false
set_option linter.unusedSimpArgs false
namespace Go.Proofs.Ytmfchlbafpkgaaa
open Go.RowKit

/-- Is the first text less? -/
def lessT (a b : ByteArray) : Bool := Plain.less a.data.toList b.data.toList
/-- How many bytes two texts share. -/
def sharedT (a b : ByteArray) : Nat := Plain.shared a.data.toList b.data.toList
/-- Is it a word? -/
def wordT (a : ByteArray) : Bool := Plain.isWord a.data.toList

theorem bytesLess_less : ∀ x y : List UInt8, Op.bytesLess x y = Plain.less x y
  | [], [] => by simp [Plain.less, Op.bytesLess]
  | [], _ :: _ => by simp [Plain.less, Op.bytesLess]
  | _ :: _, [] => by simp [Plain.less, Op.bytesLess]
  | a :: x, b :: y => by
    unfold Plain.less Op.bytesLess
    rw [bytesLess_less x y]
    by_cases h : a = b
    · subst h
      simp
    · rw [if_neg h, Bool.eq_iff_iff]
      simp [h, UInt8.lt_iff_toNat_lt]

theorem sharedT_le_left (a b : ByteArray) : sharedT a b ≤ a.size := by rw [← ba_length]; exact Plain.shared_le_left _ _
theorem sharedT_le_right (a b : ByteArray) : sharedT a b ≤ b.size := by rw [← ba_length]; exact Plain.shared_le_right _ _

theorem sharedT_step {a b : ByteArray} {k : Nat} (h1 : k < a.size) (h2 : k < b.size) (h3 : k ≤ sharedT a b) (h4 : a[k] = b[k]) : k + 1 ≤ sharedT a b := by
  refine Plain.shared_step _ _ k (by rw [ba_length]; exact h1) (by rw [ba_length]; exact h2) h3 ?_
  rw [byte_getD a k h1, byte_getD b k h2, h4]

theorem sharedT_stop {a b : ByteArray} {k : Nat} (h1 : k < a.size) (h2 : k < b.size) (h3 : k ≤ sharedT a b) (h4 : a[k] ≠ b[k]) : k = sharedT a b := by
  rcases Nat.lt_or_ge k (sharedT a b) with h | h
  · exfalso
    unfold sharedT at h
    have e := Plain.shared_take a.data.toList b.data.toList
    have e1 := congrArg (fun l => l.getD k 0) e
    rw [take_getD _ _ _ h, take_getD _ _ _ h, byte_getD a k h1, byte_getD b k h2] at e1
    exact h4 e1
  · omega

theorem sharedT_end {a b : ByteArray} {k : Nat} (h : a.size ≤ k ∨ b.size ≤ k) (h3 : k ≤ sharedT a b) : k = sharedT a b := by
  have := sharedT_le_left a b
  have := sharedT_le_right a b
  omega

theorem byte_ne {x y : UInt8} (h : x ≠ y) : (((x.toNat : Int)) != (y.toNat : Int)) = true := by
  rw [bne_iff_ne]
  intro e
  exact h (UInt8.toNat_inj.1 (by omega))
theorem byte_nbeq {x y : UInt8} (h : x ≠ y) : (((x.toNat : Int)) == (y.toNat : Int)) = false := by
  rw [beq_eq_false_iff_ne]
  intro e
  exact h (UInt8.toNat_inj.1 (by omega))

set_option maxHeartbeats 400000 in
theorem lessT_eq (a b : ByteArray) : lessT a b = if sharedT a b = a.size then decide (sharedT a b < b.size) else decide (sharedT a b < b.size) && decide ((a.data.toList.getD (sharedT a b) 0).toNat < (b.data.toList.getD (sharedT a b) 0).toNat) := by
  unfold lessT sharedT
  rw [Plain.less_eq, ba_length, ba_length]

/-! ### Words -/

theorem wordT_true {a : ByteArray} (h : wordT a = true) : 1 ≤ a.size ∧ a.size ≤ 255 := by
  unfold wordT Plain.isWord at h
  have := of_decide_eq_true h
  rw [ba_length] at this
  exact this
theorem wordT_false {a : ByteArray} (h : wordT a = false) : a.size = 0 ∨ 255 < a.size := by
  unfold wordT Plain.isWord at h
  have := of_decide_eq_false h
  rw [ba_length] at this
  omega

theorem mayBe_any (a : ByteArray) (w : World) (ha : a.size ≤ 9223372036854775807) : Calls Try.prog 86 #[.string a] w fun e w' => e = .returned (.bool (wordT a)) ∧ w = w' := by
  obtain ⟨r, hr⟩ : ∃ r, wordT a = r := ⟨_, rfl⟩
  rw [hr]
  cases r
  · rcases wordT_false hr with h | h
    · have d1 : ¬ 1 ≤ (a.size : Int) := by omega
      clear hr h
      go_enter Try.func86, Try.ntmps86
      go_wp2
      go_ret
      exact ⟨rfl, rfl⟩
    · have d1 : 1 ≤ (a.size : Int) := by omega
      have d2 : ¬ (a.size : Int) ≤ 255 := by omega
      clear hr h
      go_enter Try.func86, Try.ntmps86
      go_wp2
      go_ret
      exact ⟨rfl, rfl⟩
  · obtain ⟨h1, h2⟩ := wordT_true hr
    have d2 : decide ((a.size : Int) ≤ 255) = true := decide_eq_true (by omega)
    clear hr
    go_enter Try.func86, Try.ntmps86
    go_wp2
    go_ret
    exact ⟨rfl, rfl⟩

theorem refIs_any (a : ByteArray) (w : World) (ha : a.size ≤ 9223372036854775807) : Calls Try.prog 54 #[.string a] w fun e w' => e = .returned (.bool (wordT a)) ∧ w = w' := by
  obtain ⟨r, hr⟩ : ∃ r, wordT a = r := ⟨_, rfl⟩
  rw [hr]
  cases r
  · rcases wordT_false hr with h | h
    · have d1 : ¬ 1 ≤ (a.size : Int) := by omega
      clear hr h
      go_enter Try.func54, Try.ntmps54
      go_wp2
      go_ret
      exact ⟨rfl, rfl⟩
    · have d1 : 1 ≤ (a.size : Int) := by omega
      have d2 : ¬ (a.size : Int) ≤ 255 := by omega
      clear hr h
      go_enter Try.func54, Try.ntmps54
      go_wp2
      go_ret
      exact ⟨rfl, rfl⟩
  · obtain ⟨h1, h2⟩ := wordT_true hr
    have d2 : decide ((a.size : Int) ≤ 255) = true := decide_eq_true (by omega)
    clear hr
    go_enter Try.func54, Try.ntmps54
    go_wp2
    go_ret
    exact ⟨rfl, rfl⟩

end Go.Proofs.Ytmfchlbafpkgaaa
namespace Go.Proofs.Ytmfchlbafpkgaaa

/-- An entry: a word, its weight, whether it is gone. -/
structure Ent where
  word : ByteArray
  weight : Nat
  gone : Bool

instance : Inhabited Ent := ⟨⟨⟨#[]⟩, 0, false⟩⟩

/-- Its cells. -/
def enc (e : Ent) : List Value := [.string e.word, .int .u32 (e.weight : Int), .bool e.gone]
/-- Its word's bytes. -/
def key (e : Ent) : List UInt8 := e.word.data.toList
/-- Is its word less? -/
def ltE (a b : Ent) : Bool := lessT a.word b.word
/-- Below 0, 0, or above 0. -/
def ordT (a b : ByteArray) : Int := if lessT a b = true then -1 else if lessT b a = true then 1 else 0
def cfE (a b : Ent) : Int := ordT a.word b.word
/-- An entry that is gone weighs nothing. -/
def bare (e : Ent) : Ent := if e.gone = true then ⟨e.word, 0, e.gone⟩ else e

theorem ltE_def (a b : Ent) : ltE a b = Plain.less (key a) (key b) := rfl
theorem key_bare (e : Ent) : key (bare e) = key e := by unfold bare; split <;> rfl
theorem bare_bare (e : Ent) : bare (bare e) = bare e := by unfold bare; cases h : e.gone <;> simp [h]
theorem gone_bare (e : Ent) : (bare e).gone = e.gone := by unfold bare; split <;> simp_all

theorem key_word {a b : Ent} (h : key a = key b) : a.word = b.word := ByteArray.ext (Array.toList_inj.1 h)

theorem ordT_neg (a b : ByteArray) : decide (ordT a b < 0) = lessT a b := by
  unfold ordT
  cases h : lessT a b
  · rw [if_neg (by simp)]
    by_cases h2 : lessT b a = true
    · rw [if_pos h2]; rfl
    · rw [if_neg h2]; rfl
  · rw [if_pos rfl]; rfl

theorem less_ntrans (x y z : List UInt8) (h1 : Plain.less x y = false) (h2 : Plain.less y z = false) : Plain.less x z = false := by
  cases h : Plain.less x z with
  | false => rfl
  | true =>
    by_cases e : x = y
    · subst e; rw [h] at h2; cases h2
    · rcases Plain.less_total x y e with g | g
      · rw [g] at h1; cases h1
      · have := Plain.less_trans y x z g h
        rw [this] at h2; cases h2

theorem ltE_irrefl (x : Ent) : ltE x x = false := Plain.less_irrefl _
theorem ltE_trans {x y z : Ent} (h1 : ltE x y = true) (h2 : ltE y z = true) : ltE x z = true := Plain.less_trans _ _ _ h1 h2

theorem ltE_key (x y : Ent) (h : ltE x y = true) : key x ≠ key y := Plain.less_ne h

theorem ltE_of {x y : Ent} (h1 : ltE x y = false) (h2 : key x ≠ key y) : ltE y x = true := by
  rcases Plain.less_total _ _ h2 with g | g
  · have : ltE x y = true := g
    rw [this] at h1; cases h1
  · exact g

/-! ### Lists by rising words -/

def risingE : List Ent → Bool
  | [] => true
  | [_] => true
  | x :: y :: l => ltE x y && risingE (y :: l)

theorem risingE_cons {x : Ent} {l : List Ent} : risingE (x :: l) = true ↔ (∀ y ∈ l, ltE x y = true) ∧ risingE l = true := by
  induction l generalizing x with
  | nil => simp [risingE]
  | cons y l ih =>
    rw [show risingE (x :: y :: l) = (ltE x y && risingE (y :: l)) from rfl, Bool.and_eq_true]
    constructor
    · rintro ⟨h1, h2⟩
      refine ⟨fun z hz => ?_, h2⟩
      rcases List.mem_cons.1 hz with rfl | hz
      · exact h1
      · exact ltE_trans h1 ((ih.1 h2).1 z hz)
    · rintro ⟨h1, h2⟩
      exact ⟨h1 y (List.mem_cons_self ..), h2⟩

theorem risingE_append {a b : List Ent} : risingE (a ++ b) = true ↔ risingE a = true ∧ risingE b = true ∧ ∀ x ∈ a, ∀ y ∈ b, ltE x y = true := by
  induction a with
  | nil => simp [risingE]
  | cons z a ih =>
    rw [List.cons_append, risingE_cons, risingE_cons, ih]
    constructor
    · rintro ⟨h1, h2, h3, h4⟩
      refine ⟨⟨fun y hy => h1 y (List.mem_append_left _ hy), h2⟩, h3, fun x hx y hy => ?_⟩
      rcases List.mem_cons.1 hx with rfl | hx
      · exact h1 y (List.mem_append_right _ hy)
      · exact h4 x hx y hy
    · rintro ⟨⟨h1, h2⟩, h3, h4⟩
      refine ⟨fun y hy => ?_, h2, h3, fun x hx y hy => h4 x (List.mem_cons_of_mem _ hx) y hy⟩
      rcases List.mem_append.1 hy with hy | hy
      · exact h1 y hy
      · exact h4 z (List.mem_cons_self ..) y hy

theorem risingE_take {l : List Ent} (h : risingE l = true) (n : Nat) : risingE (l.take n) = true := by
  rw [← List.take_append_drop n l, risingE_append] at h
  exact h.1
theorem risingE_drop {l : List Ent} (h : risingE l = true) (n : Nat) : risingE (l.drop n) = true := by
  rw [← List.take_append_drop n l, risingE_append] at h
  exact h.2.1

/-- What a list says of a word. -/
def findE (l : List Ent) (c : List UInt8) : Option Ent := l.find? fun x => decide (key x = c)

theorem findE_nil (c : List UInt8) : findE [] c = none := rfl
theorem findE_cons (x : Ent) (l : List Ent) (c : List UInt8) : findE (x :: l) c = if key x = c then some x else findE l c := by
  unfold findE
  rw [List.find?_cons]
  by_cases h : key x = c
  · rw [decide_eq_true h, if_pos h]
  · rw [decide_eq_false h, if_neg h]
theorem findE_append (a b : List Ent) (c : List UInt8) : findE (a ++ b) c = (findE a c).or (findE b c) := List.find?_append
theorem findE_none {l : List Ent} {c : List UInt8} : findE l c = none ↔ ∀ x ∈ l, key x ≠ c := by
  unfold findE
  rw [List.find?_eq_none]
  simp
theorem findE_some {l : List Ent} {c : List UInt8} {x : Ent} (h : findE l c = some x) : x ∈ l ∧ key x = c :=
  ⟨List.mem_of_find?_eq_some h, by simpa using List.find?_some h⟩
theorem findE_filter (l : List Ent) (c : List UInt8) : findE l c = (l.filter fun x => decide (key x = c)).head? := by
  unfold findE; rw [List.head?_filter]
theorem findE_mem {l : List Ent} (h : risingE l = true) {x : Ent} (hx : x ∈ l) : findE l (key x) = some x := by
  induction l with
  | nil => cases hx
  | cons y l ih =>
    rw [findE_cons]
    rw [risingE_cons] at h
    rcases List.mem_cons.1 hx with rfl | hx
    · rw [if_pos rfl]
    · rw [if_neg (ltE_key _ _ (h.1 x hx)), ih h.2 hx]

/-- Lists by rising words that say the same of each word are one. -/
theorem risingE_ext : ∀ {a b : List Ent}, risingE a = true → risingE b = true → (∀ c, findE a c = findE b c) → a = b
  | [], [], _, _, _ => rfl
  | [], y :: b, _, _, h => by have := h (key y); rw [findE_cons, if_pos rfl] at this; cases this
  | x :: a, [], _, _, h => by have := h (key x); rw [findE_cons, if_pos rfl] at this; cases this
  | x :: a, y :: b, ha, hb, h => by
    have ha' := risingE_cons.1 ha
    have hb' := risingE_cons.1 hb
    have hk : key x = key y := by
      by_cases e : key x = key y
      · exact e
      · exfalso
        have h1 := h (key x)
        have h2 := h (key y)
        rw [findE_cons, if_pos rfl, findE_cons, if_neg (Ne.symm e)] at h1
        rw [findE_cons, if_neg e, findE_cons, if_pos rfl] at h2
        have g1 := findE_some h1.symm
        have g2 := findE_some h2
        have := ltE_trans (ha'.1 y g2.1) (hb'.1 x g1.1)
        rw [ltE_irrefl] at this
        cases this
    have hxy : x = y := by
      have := h (key x)
      rw [findE_cons, if_pos rfl, findE_cons, if_pos hk.symm] at this
      exact Option.some.inj this
    subst hxy
    refine congrArg _ (risingE_ext ha'.2 hb'.2 fun c => ?_)
    by_cases e : key x = c
    · rw [findE_none.2 fun z hz => e ▸ (ltE_key _ _ (ha'.1 z hz)).symm, findE_none.2 fun z hz => e ▸ (ltE_key _ _ (hb'.1 z hz)).symm]
    · have := h c
      rwa [findE_cons, if_neg e, findE_cons, if_neg e] at this

/-! ### An entry put into a list -/

def putE : List Ent → Ent → List Ent
  | [], e => [e]
  | x :: l, e => if ltE x e = true then x :: putE l e else if ltE e x = true then e :: x :: l else e :: l

theorem mem_putE {l : List Ent} {e x : Ent} (h : x ∈ putE l e) : x = e ∨ x ∈ l := by
  induction l with
  | nil => simp [putE] at h; exact .inl h
  | cons y l ih =>
    unfold putE at h
    split at h
    · rcases List.mem_cons.1 h with rfl | h
      · exact .inr (List.mem_cons_self ..)
      · rcases ih h with h | h
        · exact .inl h
        · exact .inr (List.mem_cons_of_mem _ h)
    · split at h
      · rcases List.mem_cons.1 h with rfl | h
        · exact .inl rfl
        · exact .inr h
      · rcases List.mem_cons.1 h with rfl | h
        · exact .inl rfl
        · exact .inr (List.mem_cons_of_mem _ h)

theorem putE_rising {l : List Ent} (h : risingE l = true) (e : Ent) : risingE (putE l e) = true := by
  induction l with
  | nil => rfl
  | cons x l ih =>
    have h' := risingE_cons.1 h
    unfold putE
    split
    · rename_i h1
      rw [risingE_cons]
      refine ⟨fun y hy => ?_, ih h'.2⟩
      rcases mem_putE hy with rfl | hy
      · exact h1
      · exact h'.1 y hy
    · rename_i h1
      split
      · rename_i h2
        rw [risingE_cons]
        refine ⟨fun y hy => ?_, h⟩
        rcases List.mem_cons.1 hy with rfl | hy
        · exact h2
        · exact ltE_trans h2 (h'.1 y hy)
      · rename_i h2
        rw [risingE_cons]
        refine ⟨fun y hy => ?_, h'.2⟩
        have hk : key x = key e := by
          by_cases c : key x = key e
          · exact c
          · exact absurd (ltE_of (by simpa using h1) c) h2
        have := h'.1 y hy
        rw [ltE_def] at this ⊢
        rw [← hk]; exact this

theorem findE_putE {l : List Ent} (e : Ent) (h : risingE l = true) (c : List UInt8) : findE (putE l e) c = if key e = c then some e else findE l c := by
  induction l with
  | nil => rw [putE, findE_cons]
  | cons x l ih =>
    have h' := risingE_cons.1 h
    unfold putE
    split
    · rename_i h1
      rw [findE_cons, ih h'.2, findE_cons]
      by_cases e1 : key x = c
      · rw [if_pos e1, if_pos e1, if_neg (fun e2 => ltE_key _ _ h1 (e1.trans e2.symm))]
      · rw [if_neg e1, if_neg e1]
    · rename_i h1
      split
      · rw [findE_cons]
      · rename_i h2
        have hk : key x = key e := by
          by_cases c : key x = key e
          · exact c
          · exact absurd (ltE_of (by simpa using h1) c) h2
        rw [findE_cons, findE_cons]
        by_cases e1 : key e = c
        · rw [if_pos e1, if_pos e1]
        · rw [if_neg e1, if_neg e1, if_neg (fun e2 => e1 (hk ▸ e2))]

theorem putE_length (l : List Ent) (e : Ent) : (putE l e).length ≤ l.length + 1 := by
  induction l with
  | nil => simp [putE]
  | cons x l ih => unfold putE; split <;> (try split) <;> simp <;> omega

/-- All its gone entries weigh nothing. -/
def Bared (l : List Ent) : Prop := ∀ x ∈ l, bare x = x

/-! ### Places -/

/-- How many of the list's words are less. -/
def placeE (l : List Ent) (c : List UInt8) : Nat := (l.takeWhile fun x => Plain.less (key x) c).length
/-- Is the next one the word? -/
def isE (l : List Ent) (c : List UInt8) : Bool := (findE l c).isSome

theorem placeE_le (l : List Ent) (c : List UInt8) : placeE l c ≤ l.length := (List.takeWhile_sublist _).length_le

theorem placeE_nil (c : List UInt8) : placeE [] c = 0 := rfl
theorem placeE_cons (x : Ent) (l : List Ent) (c : List UInt8) : placeE (x :: l) c = if Plain.less (key x) c = true then placeE l c + 1 else 0 := by
  unfold placeE
  rw [List.takeWhile_cons]
  split <;> simp_all

theorem place_before {l : List Ent} (c : List UInt8) : ∀ x ∈ l.take (placeE l c), Plain.less (key x) c = true := by
  induction l with
  | nil => simp
  | cons y l ih =>
    rw [placeE_cons]
    split
    · rename_i h
      rw [List.take_succ_cons]
      intro x hx
      rcases List.mem_cons.1 hx with rfl | hx
      · exact h
      · exact ih x hx
    · simp

theorem place_behind {l : List Ent} (h : risingE l = true) (c : List UInt8) : ∀ x ∈ l.drop (placeE l c), Plain.less (key x) c = false := by
  induction l with
  | nil => simp
  | cons y l ih =>
    have h' := risingE_cons.1 h
    rw [placeE_cons]
    split
    · rw [List.drop_succ_cons]
      exact ih h'.2
    · rename_i h1
      rw [List.drop_zero]
      intro x hx
      rcases List.mem_cons.1 hx with rfl | hx
      · simpa using h1
      · cases g : Plain.less (key x) c with
        | false => rfl
        | true => exact absurd (Plain.less_trans _ _ _ (h'.1 x hx) g) h1

/-- The word is in the list just if it is the next one. -/
theorem place_is {l : List Ent} (h : risingE l = true) (c : List UInt8) : isE l c = true ↔ ∃ hp : placeE l c < l.length, key l[placeE l c] = c := by
  induction l with
  | nil => simp [isE, findE_nil]
  | cons y l ih =>
    have h' := risingE_cons.1 h
    unfold isE at ih ⊢
    rw [findE_cons]
    by_cases h1 : Plain.less (key y) c = true
    · have hp : placeE (y :: l) c = placeE l c + 1 := by rw [placeE_cons, if_pos h1]
      rw [if_neg (Plain.less_ne h1), ih h'.2]
      constructor
      · rintro ⟨hp', hk⟩
        exact ⟨by rw [hp]; simp; omega, by simpa [hp] using hk⟩
      · rintro ⟨hp', hk⟩
        rw [hp] at hp'
        exact ⟨by simp at hp'; omega, by simpa [hp] using hk⟩
    · have hp : placeE (y :: l) c = 0 := by rw [placeE_cons, if_neg h1]
      by_cases h2 : key y = c
      · rw [if_pos h2]
        simp [hp, h2]
      · rw [if_neg h2]
        constructor
        · intro h3
          exfalso
          obtain ⟨x, hx⟩ := Option.isSome_iff_exists.1 h3
          have := findE_some hx
          have h4 := h'.1 x this.1
          rw [ltE_def, this.2] at h4
          exact h1 h4
        · rintro ⟨_, hk⟩
          exact absurd (by simpa [hp] using hk) h2

theorem findE_at {l : List Ent} (h : risingE l = true) (c : List UInt8) (hi : isE l c = true) : ∃ hp : placeE l c < l.length, findE l c = some l[placeE l c] ∧ key l[placeE l c] = c := by
  obtain ⟨hp, hk⟩ := (place_is h c).1 hi
  refine ⟨hp, ?_, hk⟩
  have := findE_mem h (List.getElem_mem hp)
  rwa [hk] at this
end Go.Proofs.Ytmfchlbafpkgaaa
namespace Go.Proofs.Ytmfchlbafpkgaaa
open Go.RowKit

/-- An arc: its byte, what it puts out, where it goes. -/
structure DArc where
  b : Nat
  out : Nat
  to : Int
deriving Inhabited, DecidableEq

/-- A state: its arcs, whether a word ends, and what it puts out then. -/
structure DSt where
  arcs : List DArc
  fin : Bool
  out : Nat
deriving Inhabited, DecidableEq

def DArc.ok (a : DArc) : Prop := a.b < 256 ∧ a.out < 18446744073709551616 ∧ -9223372036854775808 ≤ a.to ∧ a.to < 9223372036854775808
def DSt.ok (s : DSt) : Prop := (∀ a ∈ s.arcs, a.ok) ∧ s.out < 18446744073709551616
instance (a : DArc) : Decidable a.ok := by unfold DArc.ok; infer_instance
instance (s : DSt) : Decidable s.ok := by unfold DSt.ok; infer_instance

/-- What stands in memory for an arc. -/
def arcC (a : DArc) : List Value := [.int .u8 (a.b : Int), .int .u64 (a.out : Int), .int .i64 a.to]
def arcsC (l : List DArc) : List Value := l.flatMap arcC

/-- The least of outs. -/
def leastO (m : Nat) (l : List Nat) : Nat := l.foldl min m
def DSt.outs (s : DSt) : List Nat := s.arcs.map (·.out) ++ (if s.fin then [s.out] else [])
def DSt.least (s : DSt) : Nat := leastO 18446744073709551615 s.outs

/-- Outs less so much. -/
def DArc.less (n : Nat) (a : DArc) : DArc := ⟨a.b, a.out - n, a.to⟩
def DSt.push (s : DSt) : DSt := ⟨s.arcs.map (·.less s.least), s.fin, if s.fin then s.out - s.least else s.out⟩

/-- A number's eight bytes. -/
def bytes8 (n : Nat) : List UInt8 := (List.range 8).map fun i => UInt8.ofNat (n / 2 ^ (8 * i) % 256)
def asU (n : Int) : Nat := (n % 18446744073709551616).toNat
def arcK (a : DArc) : List UInt8 := UInt8.ofNat a.b :: (bytes8 a.out ++ bytes8 (asU a.to))
def DSt.key (s : DSt) : List UInt8 := (if s.fin then 1 else 0) :: (bytes8 s.out ++ s.arcs.flatMap arcK)
def DSt.keyB (s : DSt) : ByteArray := ⟨s.key.toArray⟩

/-- The place of a state that is alike. -/
def keyAt (s : DSt) (l : List DSt) : Option Nat := l.findIdx? fun x => x.key == s.key

/-- What is being made: the word that was last, the open states, the deepest one last, and the others. -/
structure DMak where
  last : ByteArray
  op : List DSt
  st : List DSt
deriving Inhabited

def DMak.number (m : DMak) (s : DSt) : Nat := (keyAt s m.st).getD m.st.length
def DMak.numbered (m : DMak) (s : DSt) : DMak := if (keyAt s m.st).isSome then m else ⟨m.last, m.op, m.st ++ [s]⟩

/-- The last arc is another one. -/
def lastArc (l : List DArc) (out : Nat) (to : Int) : List DArc := l.dropLast ++ [⟨(l.getLast?.getD default).b, out, to⟩]
def lastSt (l : List DSt) (f : DSt → DSt) : List DSt := l.dropLast ++ [f (l.getLast?.getD default)]

def DMak.shut1 (m : DMak) : DMak :=
  let s := m.op.getLast?.getD default
  let m1 : DMak := ⟨m.last, m.op.dropLast, m.st⟩
  let m2 := m1.numbered s.push
  ⟨m2.last, lastSt m2.op fun t => ⟨lastArc t.arcs s.least (m1.number s.push), t.fin, t.out⟩, m2.st⟩
def DMak.shuts (m : DMak) : Nat → DMak
  | 0 => m
  | n + 1 => m.shut1.shuts n
/-- Shut down to a depth. -/
def DMak.shut (m : DMak) (depth : Nat) : DMak := m.shuts (m.op.length - (depth + 1))

/-- One byte more of a way. -/
def DMak.more (m : DMak) (b : UInt8) : DMak := ⟨m.last, lastSt m.op (fun t => ⟨t.arcs ++ [⟨b.toNat, 0, 0⟩], t.fin, t.out⟩) ++ [⟨[], false, 0⟩], m.st⟩
def valT (e : Ent) : Nat := if e.gone then 0 else e.weight + 1
def DMak.add (m : DMak) (e : Ent) : DMak :=
  let d := sharedT m.last e.word
  let m1 := (e.word.data.toList.drop d).foldl DMak.more (m.shut d)
  ⟨e.word, lastSt m1.op (fun t => ⟨t.arcs, true, valT e⟩), m1.st⟩
def DMak.whole (m : DMak) : List DSt × Nat :=
  let m1 := m.shut 0
  let s := m1.op.getLast?.getD default
  ((m1.numbered s.push).st, s.least)
def DMak.start : DMak := ⟨⟨#[]⟩, [⟨[], false, 0⟩], []⟩
/-- The states and what goes ahead. -/
def buildT (l : List Ent) : List DSt × Nat := if l.isEmpty then ([⟨[], false, 0⟩], 0) else (l.foldl DMak.add DMak.start).whole

/-- Right. -/
def risingA (at_ : Nat) : Option DArc → List DArc → Bool
  | _, [] => true
  | p, a :: l => (decide (0 ≤ a.to) && decide (a.to < at_) && (match p with | none => true | some x => decide (x.b < a.b))) && risingA at_ (some a) l
def DSt.formed (s : DSt) (at_ : Nat) : Bool := risingA at_ none s.arcs && (s.fin || s.out == 0)
def formedAll (l : List DSt) : Nat → List DSt → Bool
  | _, [] => true
  | i, s :: r => (s.formed i && s.least == 0) && formedAll l (i + 1) r

end Go.Proofs.Ytmfchlbafpkgaaa
namespace Go.Proofs.Ytmfchlbafpkgaaa

/-- A trie: nothing, or a node that says something of its word, or nothing, with its ways on. -/
inductive Tr where
  | nil : Tr
  | node (v : Option (Nat × Bool)) (ws : UInt8 → Tr) : Tr

namespace Tr

def val : Tr → Option (Nat × Bool)
  | nil => none
  | node v _ => v
def way : Tr → UInt8 → Tr
  | nil, _ => nil
  | node _ ws, b => ws b
def isNil : Tr → Bool
  | nil => true
  | node _ _ => false
def down : Tr → List UInt8 → Tr
  | t, [] => t
  | t, b :: r => down (t.way b) r
def get (t : Tr) (r : List UInt8) : Option (Nat × Bool) := (t.down r).val
def put : Tr → List UInt8 → Nat × Bool → Tr
  | t, [], v => node (some v) t.way
  | t, b :: r, v => node t.val (fun c => if c = b then put (t.way b) r v else t.way c)

theorem eq_nil {t : Tr} (h : t.isNil = true) : t = nil := by cases t with
  | nil => rfl
  | node v ws => cases h

theorem down_nil : ∀ r : List UInt8, nil.down r = nil
  | [] => rfl
  | _ :: r => down_nil r
theorem down_append : ∀ (a b : List UInt8) (t : Tr), t.down (a ++ b) = (t.down a).down b
  | [], _, _ => rfl
  | _ :: a, b, t => down_append a b _
theorem get_nil (r : List UInt8) : nil.get r = none := by unfold get; rw [down_nil]; rfl
theorem get_cons (t : Tr) (b : UInt8) (r : List UInt8) : t.get (b :: r) = (t.way b).get r := rfl
theorem get_down (t : Tr) (a b : List UInt8) : t.get (a ++ b) = (t.down a).get b := by unfold get; rw [down_append]

theorem put_not_nil (t : Tr) (r : List UInt8) (v : Nat × Bool) : (t.put r v).isNil = false := by cases r <;> rfl

theorem get_put : ∀ (r : List UInt8) (t : Tr) (v : Nat × Bool) (c : List UInt8), (t.put r v).get c = if c = r then some v else t.get c
  | [], t, v, [] => rfl
  | [], t, v, b :: c => by
    rw [if_neg (by simp)]
    rfl
  | b :: r, t, v, [] => by
    rw [if_neg (by simp)]
    rfl
  | b :: r, t, v, c :: s => by
    show (if c = b then put (t.way b) r v else t.way c).get s = _
    by_cases h : c = b
    · subst h
      rw [if_pos rfl, get_put r _ v s, get_cons]
      by_cases h2 : s = r
      · rw [if_pos h2, if_pos (by rw [h2])]
      · rw [if_neg h2, if_neg (by simpa using h2)]
    · rw [if_neg h, if_neg (by simp [h]), get_cons]

/-- No node has nothing to say and no way on. -/
def Good : Tr → Prop
  | nil => True
  | node v ws => (v.isSome = true ∨ ∃ b, (ws b).isNil = false) ∧ ∀ b, (ws b).Good

theorem Good.way {t : Tr} (h : t.Good) (b : UInt8) : (t.way b).Good := by
  cases t with
  | nil => trivial
  | node v ws => exact h.2 b
theorem Good.put : ∀ (r : List UInt8) (t : Tr) (v : Nat × Bool), t.Good → (t.put r v).Good
  | [], t, v, h => ⟨.inl rfl, fun b => h.way b⟩
  | b :: r, t, v, h => by
    refine ⟨.inr ⟨b, ?_⟩, fun c => ?_⟩
    · show (if b = b then (t.way b).put r v else t.way b).isNil = false
      rw [if_pos rfl]; exact put_not_nil _ _ _
    · show (if c = b then Tr.put (t.way b) r v else t.way c).Good
      by_cases e : c = b
      · rw [if_pos e]; exact Good.put r _ v (h.way b)
      · rw [if_neg e]; exact h.way c
theorem Good.down : ∀ (r : List UInt8) {t : Tr}, t.Good → (t.down r).Good
  | [], _, h => h
  | b :: r, _, h => Good.down r (h.way b)

/-- A good trie that is there has an entry. -/
theorem Good.some : ∀ {t : Tr}, t.Good → t.isNil = false → ∃ r v, t.get r = some v
  | nil, _, h => by cases h
  | node v ws, h, _ => by
    rcases h.1 with h1 | ⟨b, hb⟩
    · obtain ⟨x, hx⟩ := Option.isSome_iff_exists.1 h1
      exact ⟨[], x, hx⟩
    · obtain ⟨r, x, hx⟩ := Good.some (h.2 b) hb
      exact ⟨b :: r, x, hx⟩

end Tr

/-- All bytes, rising. -/
def bytes256 : List UInt8 := (List.range 256).map UInt8.ofNat
theorem mem_bytes (b : UInt8) : b ∈ bytes256 := List.mem_map.2 ⟨b.toNat, by rw [List.mem_range]; exact b.toNat_lt, UInt8.ofNat_toNat⟩
theorem bytes_rise : bytes256.Pairwise fun a b => a.toNat < b.toNat := by
  unfold bytes256
  rw [List.pairwise_map]
  refine List.Pairwise.imp_of_mem ?_ List.pairwise_lt_range
  intro a b ha hb h
  rw [List.mem_range] at ha hb
  simp only [UInt8.toNat_ofNat']
  omega

/-- The entry of a row of bytes. -/
def entOf (r : List UInt8) (v : Nat × Bool) : Ent := ⟨⟨r.toArray⟩, v.1, v.2⟩
theorem key_entOf (r : List UInt8) (v : Nat × Bool) : key (entOf r v) = r := rfl
theorem ent_eq (x : Ent) : x = entOf (key x) (x.weight, x.gone) := rfl

def ownT (v : Option (Nat × Bool)) (row : List UInt8) : List Ent :=
  match v with
  | none => []
  | some x => [entOf row x]

namespace Tr
/-- All entries behind a row of bytes, by rising words. -/
def all : Tr → List UInt8 → List Ent
  | nil, _ => []
  | node v ws, row => ownT v row ++ bytes256.flatMap fun b => all (ws b) (row ++ [b])

theorem mem_all : ∀ (t : Tr) (row : List UInt8) (x : Ent), x ∈ t.all row ↔ ∃ r, key x = row ++ r ∧ t.get r = some (x.weight, x.gone)
  | nil, row, x => by
    unfold all
    simp [get_nil]
  | node v ws, row, x => by
    unfold all
    rw [List.mem_append, List.mem_flatMap]
    constructor
    · rintro (h | ⟨b, _, h⟩)
      · unfold ownT at h
        split at h
        · cases h
        · rename_i y
          rw [List.mem_singleton] at h
          subst h
          exact ⟨[], by rw [key_entOf, List.append_nil], rfl⟩
      · obtain ⟨r, h1, h2⟩ := (mem_all (ws b) _ x).1 h
        exact ⟨b :: r, by rw [h1, List.append_assoc]; rfl, h2⟩
    · rintro ⟨r, h1, h2⟩
      cases r with
      | nil =>
        left
        have h2 : v = some (x.weight, x.gone) := h2
        subst h2
        show x ∈ [entOf row (x.weight, x.gone)]
        rw [List.mem_singleton, ← (show key x = row by rw [h1, List.append_nil])]
        exact ent_eq x
      | cons b r =>
        right
        exact ⟨b, mem_bytes b, (mem_all (ws b) _ x).2 ⟨r, by rw [h1, List.append_assoc]; rfl, h2⟩⟩

theorem less_prefix : ∀ (a b c : List UInt8), Plain.less (a ++ b) (a ++ c) = Plain.less b c
  | [], _, _ => rfl
  | x :: a, b, c => by
    rw [List.cons_append, List.cons_append, Plain.less, if_pos rfl]
    exact less_prefix a b c

theorem rise_parts (row : List UInt8) (g : UInt8 → List Ent) (hg : ∀ b, risingE (g b) = true) (hk : ∀ b, ∀ x ∈ g b, ∃ r, key x = row ++ b :: r) :
    ∀ l : List UInt8, l.Pairwise (fun a b => a.toNat < b.toNat) → risingE (l.flatMap g) = true
  | [], _ => rfl
  | b :: l, h => by
    obtain ⟨h1, h2⟩ := List.pairwise_cons.1 h
    rw [List.flatMap_cons, risingE_append]
    refine ⟨hg b, rise_parts row g hg hk l h2, fun x hx y hy => ?_⟩
    obtain ⟨c, hc, hy⟩ := List.mem_flatMap.1 hy
    obtain ⟨r, e1⟩ := hk b x hx
    obtain ⟨s, e2⟩ := hk c y hy
    rw [ltE_def, e1, e2, less_prefix]
    have := h1 c hc
    unfold Plain.less
    rw [if_neg (fun e => by subst e; omega)]
    exact decide_eq_true this

theorem all_rising : ∀ (t : Tr) (row : List UInt8), risingE (t.all row) = true
  | nil, _ => rfl
  | node v ws, row => by
    unfold all
    rw [risingE_append]
    refine ⟨by unfold ownT; split <;> rfl, rise_parts row _ (fun b => all_rising (ws b) _) (fun b x hx => ?_) _ bytes_rise, fun x hx y hy => ?_⟩
    · obtain ⟨r, h1, _⟩ := (mem_all _ _ x).1 hx
      exact ⟨r, by rw [h1, List.append_assoc]; rfl⟩
    · obtain ⟨b, _, hy⟩ := List.mem_flatMap.1 hy
      obtain ⟨r, h1, _⟩ := (mem_all _ _ y).1 hy
      unfold ownT at hx
      split at hx
      · cases hx
      · rw [List.mem_singleton] at hx
        subst hx
        rw [ltE_def, key_entOf, h1, List.append_assoc]
        have := less_prefix row [] ([b] ++ r)
        rw [List.append_nil] at this
        rw [this]
        rfl

/-- What the entries say of a word. -/
theorem find_all (t : Tr) (c : List UInt8) : findE (t.all []) c = (t.get c).map (entOf c) := by
  cases h : t.get c with
  | none =>
    rw [Option.map_none, findE_none]
    intro x hx e
    obtain ⟨r, h1, h2⟩ := (mem_all _ _ x).1 hx
    rw [List.nil_append, e] at h1
    rw [← h1, h] at h2
    cases h2
  | some v =>
    have hm : entOf c v ∈ t.all [] := (mem_all _ _ _).2 ⟨c, rfl, h⟩
    exact findE_mem (all_rising t []) hm

theorem all_put (t : Tr) (r : List UInt8) (v : Nat × Bool) : (t.put r v).all [] = putE (t.all []) (entOf r v) := by
  refine risingE_ext (all_rising _ _) (putE_rising (all_rising _ _) _) fun c => ?_
  rw [find_all, findE_putE _ (all_rising _ _), key_entOf, find_all, get_put]
  by_cases h : c = r
  · rw [if_pos h, if_pos h.symm, h]; rfl
  · rw [if_neg h, if_neg (fun e => h e.symm)]

end Tr

theorem filter_rising {l : List Ent} (h : risingE l = true) (p : Ent → Bool) : risingE (l.filter p) = true := by
  induction l with
  | nil => rfl
  | cons x l ih =>
    obtain ⟨h1, h2⟩ := risingE_cons.1 h
    rw [List.filter_cons]
    split
    · rw [risingE_cons]
      exact ⟨fun y hy => h1 y (List.mem_filter.1 hy).1, ih h2⟩
    · exact ih h2

/-- Lists by rising words with the same members are one. -/
theorem rising_mem_ext {a b : List Ent} (ha : risingE a = true) (hb : risingE b = true) (h : ∀ x, x ∈ a ↔ x ∈ b) : a = b := by
  refine risingE_ext ha hb fun c => ?_
  cases e : findE a c with
  | some x =>
    obtain ⟨h1, h2⟩ := findE_some e
    rw [← h2, findE_mem hb ((h x).1 h1)]
  | none =>
    symm
    rw [findE_none] at e ⊢
    exact fun x hx => e x ((h x).2 hx)

/-- Does the word begin so? -/
def beginsT (r : List UInt8) (x : Ent) : Bool := r.isPrefixOf (key x)
/-- The entries whose words begin so. -/
def underT (l : List Ent) (r : List UInt8) : List Ent := l.filter (beginsT r)

theorem beginsT_iff (r : List UInt8) (x : Ent) : beginsT r x = true ↔ ∃ s, key x = r ++ s := by
  unfold beginsT
  rw [List.isPrefixOf_iff_prefix]
  exact ⟨fun ⟨s, h⟩ => ⟨s, h.symm⟩, fun ⟨s, h⟩ => ⟨s, h.symm⟩⟩

theorem underT_nil (l : List Ent) : underT l [] = l := List.filter_eq_self.2 fun _ _ => rfl

namespace Tr
theorem all_under (t : Tr) (r : List UInt8) : (t.down r).all r = underT (t.all []) r := by
  refine rising_mem_ext (all_rising _ _) (filter_rising (all_rising _ _) _) fun x => ?_
  unfold underT
  rw [List.mem_filter, mem_all, mem_all, beginsT_iff]
  constructor
  · rintro ⟨s, h1, h2⟩
    exact ⟨⟨r ++ s, h1, by rw [get_down]; exact h2⟩, s, h1⟩
  · rintro ⟨⟨q, h1, h2⟩, s, h3⟩
    rw [List.nil_append] at h1
    refine ⟨s, h3, ?_⟩
    rw [← get_down, ← h3, h1]
    exact h2

/-- There is a node just where an entry's word begins so. -/
theorem Good.is {t : Tr} (h : t.Good) (r : List UInt8) : (t.down r).isNil = (underT (t.all []) r).isEmpty := by
  rw [← all_under]
  cases e : (t.down r).isNil with
  | true => rw [eq_nil e]; rfl
  | false =>
    obtain ⟨s, v, hs⟩ := Good.some (h.down r) e
    symm
    rw [List.isEmpty_eq_false_iff]
    intro hn
    have := (mem_all (t.down r) r (entOf (r ++ s) v)).2 ⟨s, rfl, hs⟩
    rw [hn] at this
    cases this

/-- The bytes that lead on, rising. -/
def keys (t : Tr) : List UInt8 := bytes256.filter fun b => !(t.way b).isNil
theorem mem_keys (t : Tr) (b : UInt8) : b ∈ t.keys ↔ (t.way b).isNil = false := by
  unfold keys
  rw [List.mem_filter]
  simp [mem_bytes]
theorem keys_rise (t : Tr) : t.keys.Pairwise fun a b => a.toNat < b.toNat := bytes_rise.filter _
theorem keys_length (t : Tr) : t.keys.length ≤ 256 := Nat.le_trans (List.length_filter_le _ _) (by simp [bytes256])

theorem flatMap_filter {α β : Type} (p : α → Bool) (f : α → List β) (h : ∀ a, p a = false → f a = []) : ∀ l : List α, (l.filter p).flatMap f = l.flatMap f
  | [] => rfl
  | a :: l => by
    rw [List.filter_cons, List.flatMap_cons]
    cases e : p a with
    | true => rw [if_pos rfl, List.flatMap_cons, flatMap_filter p f h l]
    | false => rw [if_neg (by simp), h a e, flatMap_filter p f h l]; rfl

/-- All, by the ways that there are. -/
theorem all_eq (t : Tr) (row : List UInt8) (h : t.isNil = false) : t.all row = ownT t.val row ++ t.keys.flatMap fun b => (t.way b).all (row ++ [b]) := by
  cases t with
  | nil => cases h
  | node v ws =>
    unfold keys
    rw [flatMap_filter _ (fun b => ((node v ws).way b).all (row ++ [b])) fun b hb => by
      have h0 : (node v ws).way b = nil := eq_nil (by simpa using hb)
      rw [h0]; rfl]
    rfl

/-- The root, which is there always. -/
def root : Tr → Tr
  | nil => node none fun _ => nil
  | node v ws => node v ws
theorem root_val (t : Tr) : t.root.val = t.val := by cases t <;> rfl
theorem root_way (t : Tr) (b : UInt8) : t.root.way b = t.way b := by cases t <;> rfl
theorem root_down (t : Tr) (b : UInt8) (r : List UInt8) : t.root.down (b :: r) = t.down (b :: r) := by
  show (t.root.way b).down r = _
  rw [root_way]; rfl
theorem root_nil (t : Tr) : t.root.isNil = false := by cases t <;> rfl
theorem root_all (t : Tr) (row : List UInt8) : t.root.all row = t.all row := by
  cases t with
  | nil =>
    show [] ++ bytes256.flatMap _ = _
    rw [List.nil_append]
    show bytes256.flatMap (fun _ => []) = []
    simp
  | node v ws => rfl
theorem root_get (t : Tr) (r : List UInt8) : t.root.get r = t.get r := by
  cases r with
  | nil => exact root_val t
  | cons b r => unfold get; rw [root_down]
end Tr
end Go.Proofs.Ytmfchlbafpkgaaa
namespace Go.Proofs.Ytmfchlbafpkgaaa

theorem le_flatMap {α β : Type} (f : α → List β) : ∀ l : List α, (∀ a ∈ l, f a ≠ []) → l.length ≤ (l.flatMap f).length
  | [], _ => Nat.le_refl _
  | a :: l, h => by
    have h1 := le_flatMap f l (fun b hb => h b (List.mem_cons_of_mem _ hb))
    have h2 := List.length_pos_iff.2 (h a (List.mem_cons_self ..))
    rw [List.flatMap_cons, List.length_append, List.length_cons]
    omega
theorem flatMap_le {α β : Type} (f : α → List β) : ∀ l : List α, ∀ a ∈ l, (f a).length ≤ (l.flatMap f).length
  | b :: l, a, h => by
    rw [List.flatMap_cons, List.length_append]
    rcases List.mem_cons.1 h with rfl | h
    · omega
    · have := flatMap_le f l a h
      omega
theorem flatMap_length {α β γ : Type} (f : α → List β) (g : α → List γ) : ∀ l : List α, (∀ a ∈ l, (f a).length = (g a).length) → (l.flatMap f).length = (l.flatMap g).length
  | [], _ => rfl
  | a :: l, h => by
    rw [List.flatMap_cons, List.flatMap_cons, List.length_append, List.length_append, h a (List.mem_cons_self ..), flatMap_length f g l (fun b hb => h b (List.mem_cons_of_mem _ hb))]
theorem flatMap_flat {α β γ : Type} (f : α → List β) (g : β → List γ) : ∀ l : List α, (l.flatMap f).flatMap g = l.flatMap fun a => (f a).flatMap g
  | [] => rfl
  | a :: l => by rw [List.flatMap_cons, List.flatMap_cons, List.flatMap_append, flatMap_flat f g l]
theorem flatMap_same {α β : Type} {f g : α → List β} : ∀ l : List α, (∀ a ∈ l, f a = g a) → l.flatMap f = l.flatMap g
  | [], _ => rfl
  | a :: l, h => by rw [List.flatMap_cons, List.flatMap_cons, h a (List.mem_cons_self ..), flatMap_same l (fun b hb => h b (List.mem_cons_of_mem _ hb))]

namespace Tr
/-- The nodes, with their rows and what they say. -/
def visits : Tr → List UInt8 → List (List UInt8 × Option (Nat × Bool))
  | nil, _ => []
  | node v ws, row => (row, v) :: bytes256.flatMap fun b => visits (ws b) (row ++ [b])

theorem visits_nil {t : Tr} (h : t.isNil = true) (row : List UInt8) : t.visits row = [] := by rw [eq_nil h]; rfl
theorem visits_eq (t : Tr) (row : List UInt8) (h : t.isNil = false) : t.visits row = (row, t.val) :: t.keys.flatMap fun b => (t.way b).visits (row ++ [b]) := by
  cases t with
  | nil => cases h
  | node v ws =>
    unfold keys
    rw [flatMap_filter (fun b => !((node v ws).way b).isNil) (fun b => ((node v ws).way b).visits (row ++ [b])) (fun b hb => visits_nil (by simpa using hb) _)]
    rfl
theorem visits_all : ∀ (t : Tr) (row : List UInt8), (t.visits row).flatMap (fun x => ownT x.2 x.1) = t.all row
  | nil, _ => rfl
  | node v ws, row => by
    unfold visits all
    rw [List.flatMap_cons, flatMap_flat]
    exact congrArg _ (flatMap_same _ fun b _ => visits_all (ws b) _)

theorem all_length : ∀ (t : Tr) (row row' : List UInt8), (t.all row).length = (t.all row').length
  | nil, _, _ => rfl
  | node v ws, row, row' => by
    unfold all
    rw [List.length_append, List.length_append, flatMap_length _ (fun b => all (ws b) (row' ++ [b])) _ (fun b _ => all_length (ws b) _ _)]
    unfold ownT
    split <;> rfl

theorem keys_le {t : Tr} (h : t.Good) (row : List UInt8) : t.keys.length ≤ (t.all row).length := by
  cases e : t.isNil with
  | true => rw [eq_nil e]; unfold keys; rw [show (bytes256.filter fun b => !(nil.way b).isNil) = [] from List.filter_eq_nil_iff.2 (fun _ _ => by simp [way, isNil])]; exact Nat.zero_le _
  | false =>
    rw [all_eq t row e, List.length_append]
    refine Nat.le_trans (le_flatMap _ _ fun b hb => ?_) (Nat.le_add_left ..)
    obtain ⟨r, v, hr⟩ := (h.way b).some ((mem_keys t b).1 hb)
    intro e0
    have := (mem_all (t.way b) (row ++ [b]) (entOf ((row ++ [b]) ++ r) v)).2 ⟨r, rfl, hr⟩
    rw [e0] at this
    cases this
theorem way_le (t : Tr) (b : UInt8) (row : List UInt8) : ((t.way b).all row).length ≤ (t.all row).length := by
  cases t with
  | nil => exact Nat.le_refl _
  | node v ws =>
    rw [all_length _ row (row ++ [b])]
    show _ ≤ (ownT v row ++ bytes256.flatMap fun b => all (ws b) (row ++ [b])).length
    rw [List.length_append]
    exact Nat.le_trans (flatMap_le (fun b => all (ws b) (row ++ [b])) _ b (mem_bytes b)) (Nat.le_add_left ..)

/-- No deeper than d, and from no node do fifty ways lead on. -/
def Slim : Nat → Tr → Prop
  | 0, t => t.isNil = true
  | d + 1, t => t.keys.length < 50 ∧ ∀ b, Slim d (t.way b)

theorem Slim.of : ∀ (d : Nat) (t : Tr), t.Good → (∀ r, (t.get r).isSome = true → r.length < d) → (t.all []).length < 50 → Slim d t
  | 0, t, hg, hr, _ => by
    cases e : t.isNil with
    | true => exact e
    | false =>
      obtain ⟨r, v, h⟩ := hg.some e
      have := hr r (by rw [h]; rfl)
      omega
  | d + 1, t, hg, hr, hl => ⟨Nat.lt_of_le_of_lt (keys_le hg []) hl, fun b => Slim.of d _ (hg.way b) (fun r h => by have := hr (b :: r) h; rw [List.length_cons] at this; omega) (Nat.lt_of_le_of_lt (way_le t b []) hl)⟩
end Tr
end Go.Proofs.Ytmfchlbafpkgaaa

/-
  Plain mathematics of the transducers that are drawn.
-/
import Derived.Test.YtjiilmiikejnhaaDoorP03
set_option linter.unusedVariables false
set_option linter.unusedSimpArgs false
namespace Go.Proofs.YtjiilmiikejnhaaDoor

def fewS (s : DSt) : DSt := { s with arcs := s.arcs.take 6 }
def fewT (l : List DSt) : List DSt := (l.take 12).map fewS
def formA (i : Nat) (a : DArc) : DArc := { a with to := (((a.to % 4294967296).toNat % i : Nat) : Int) }
def formS (i : Nat) (s : DSt) : DSt := ⟨if i = 0 then [] else s.arcs.map (formA i), s.fin, if s.fin then s.out else 0⟩
def formSs : Nat → List DSt → List DSt
  | _, [] => []
  | i, s :: l => formS i s :: formSs (i + 1) l
def formedT (l : List DSt) : List DSt := if l = [] then [⟨[], false, 0⟩] else formSs 0 (fewT l)

theorem formSs_length : ∀ (l : List DSt) (i : Nat), (formSs i l).length = l.length
  | [], _ => rfl
  | x :: l, i => by simp [formSs, formSs_length l]
theorem formSs_append : ∀ (l m : List DSt) (i : Nat), formSs i (l ++ m) = formSs i l ++ formSs (i + l.length) m
  | [], m, i => by simp [formSs]
  | x :: l, m, i => by simp [formSs, formSs_append l m (i + 1)]; congr 1; omega
theorem formSs_take {l : List DSt} {k : Nat} (h : k < l.length) : formSs 0 (l.take (k + 1)) = formSs 0 (l.take k) ++ [formS k l[k]] := by
  rw [List.take_succ_eq_append_getElem h, formSs_append]
  simp [formSs, Nat.min_eq_left (Nat.le_of_lt h)]
theorem fewT_length (l : List DSt) : (fewT l).length = min 12 l.length := by simp [fewT]
theorem formA_ok {i : Nat} {a : DArc} (hi : 0 < i) (hI : i ≤ 12) (h : a.ok) : (formA i a).ok := by
  obtain ⟨h1, h2, h3, h4⟩ := h
  have := Nat.mod_lt (a.to % 4294967296).toNat hi
  refine ⟨h1, h2, ?_, ?_⟩ <;> (simp only [formA]; omega)
theorem fewS_ok {s : DSt} (h : s.ok) : (fewS s).ok := ⟨fun a ha => h.1 a (List.mem_of_mem_take ha), h.2⟩
theorem formS_ok {i : Nat} {s : DSt} (hI : i ≤ 12) (h : s.ok) : (formS i s).ok := by
  refine ⟨fun a ha => ?_, ?_⟩
  · unfold formS at ha
    dsimp only at ha
    split at ha
    · simp at ha
    · obtain ⟨b, hb, rfl⟩ := List.mem_map.1 ha
      exact formA_ok (by omega) hI (h.1 b hb)
  · unfold formS
    dsimp only
    split
    · exact h.2
    · decide
theorem formS_may {i : Nat} {s : DSt} (h : s.arcs.length ≤ 6) : mayS i (formS i s) = true := by
  unfold mayS formS
  dsimp only
  by_cases hi : i = 0
  · subst hi
    cases s.fin <;> simp
  · rw [if_neg hi]
    simp only [List.length_map, Bool.and_eq_true, decide_eq_true_eq, Bool.or_eq_true, beq_iff_eq, List.all_eq_true]
    refine ⟨by omega, ?_, fun a ha => ?_⟩
    · cases s.fin <;> simp
    · obtain ⟨b, _, rfl⟩ := List.mem_map.1 ha
      have := Nat.mod_lt (b.to % 4294967296).toNat (Nat.pos_of_ne_zero hi)
      simp only [formA, mayA, Bool.and_eq_true, decide_eq_true_eq]
      exact ⟨decide_eq_true (Int.natCast_nonneg _), decide_eq_true (Int.ofNat_lt.2 this)⟩
theorem formSs_may : ∀ (l : List DSt) (i : Nat), (∀ s ∈ l, s.arcs.length ≤ 6) → maySs i (formSs i l) = true
  | [], _, _ => rfl
  | x :: l, i, h => by
    simp only [formSs, maySs, Bool.and_eq_true]
    exact ⟨formS_may (h x (by simp)), formSs_may l (i + 1) fun s hs => h s (by simp [hs])⟩
theorem formSs_ok : ∀ (l : List DSt) (i : Nat), i + l.length ≤ 12 → (∀ s ∈ l, s.ok) → ∀ s ∈ formSs i l, s.ok
  | [], _, _, _ => by simp [formSs]
  | x :: l, i, hI, h => by
    intro s hs
    simp only [List.length_cons] at hI
    simp only [formSs, List.mem_cons] at hs
    rcases hs with rfl | hs
    · exact formS_ok (by omega) (h x (by simp))
    · exact formSs_ok l (i + 1) (by omega) (fun s hs => h s (by simp [hs])) s hs
theorem formSs_arcs : ∀ (l : List DSt) (i : Nat), (∀ s ∈ l, s.arcs.length ≤ 6) → ∀ s ∈ formSs i l, s.arcs.length ≤ 6
  | [], _, _ => by simp [formSs]
  | x :: l, i, h => by
    intro s hs
    simp only [formSs, List.mem_cons] at hs
    rcases hs with rfl | hs
    · have := h x (by simp)
      unfold formS
      dsimp only
      split
      · simp
      · simpa using this
    · exact formSs_arcs l (i + 1) (fun s hs => h s (by simp [hs])) s hs
theorem fewT_arcs (l : List DSt) : ∀ s ∈ fewT l, s.arcs.length ≤ 6 := by
  intro s hs
  obtain ⟨x, _, rfl⟩ := List.mem_map.1 hs
  simp [fewS]
  omega
theorem fewT_ok {l : List DSt} (h : ∀ s ∈ l, s.ok) : ∀ s ∈ fewT l, s.ok := by
  intro s hs
  obtain ⟨x, hx, rfl⟩ := List.mem_map.1 hs
  exact fewS_ok (h x (List.mem_of_mem_take hx))

/-- What is drawn, formed: it may be laid, and is short. -/
structure Formed (l : List DSt) : Prop where
  ne : l ≠ []
  len : l.length ≤ 12
  arcs : ∀ s ∈ l, s.arcs.length ≤ 6
  ok : ∀ s ∈ l, s.ok
  may : maySs 0 l = true
theorem formedT_formed {l : List DSt} (h : ∀ s ∈ l, s.ok) : Formed (formedT l) := by
  unfold formedT
  split
  · exact ⟨by simp, by simp, by simp, by simp [DSt.ok], by decide⟩
  · rename_i hl
    have hL := fewT_length l
    have hp : 0 < l.length := List.length_pos_iff.2 hl
    refine ⟨fun e => ?_, by rw [formSs_length]; omega, formSs_arcs _ _ (fewT_arcs l), formSs_ok _ _ (by omega) (fewT_ok h), formSs_may _ _ (fewT_arcs l)⟩
    have h9 := congrArg List.length e
    rw [formSs_length, hL] at h9
    have h8 : min 12 l.length = 0 := h9
    omega
theorem layA_len {i : Nat} {a : DArc} (hi : i < 18446744073709551616) (h : a.ok) (hm : mayA i a = true) : (layA i a).length ≤ 19 := by
  simp only [mayA, Bool.and_eq_true, decide_eq_true_eq] at hm
  have h1 := (Plain.size_bounds h.2.1).2
  have h2 := (Plain.size_bounds (n := ((i : Int) - a.to).toNat) (by omega)).2
  simp [layA, Plain.enc_length]
  omega
theorem arcs_len {i : Nat} (hi : i < 18446744073709551616) : ∀ (l : List DArc), (∀ a ∈ l, a.ok) → l.all (mayA i) = true → (l.flatMap (layA i)).length ≤ 19 * l.length
  | [], _, _ => by simp
  | a :: l, hok, hm => by
    simp only [List.all_cons, Bool.and_eq_true] at hm
    have h1 := layA_len hi (hok a (by simp)) hm.1
    have h2 := arcs_len hi l (fun b hb => hok b (by simp [hb])) hm.2
    simp only [List.flatMap_cons, List.length_append, List.length_cons]
    omega
theorem layS_len {i : Nat} {s : DSt} (hi : i < 18446744073709551616) (hl : s.arcs.length ≤ 256) (h : s.ok) (hm : mayS i s = true) : (layS i s).length ≤ 18 + 19 * s.arcs.length := by
  simp only [mayS, Bool.and_eq_true] at hm
  have h1 := arcs_len hi s.arcs h.1 hm.2.2
  have h2 := (Plain.size_bounds h.2).2
  have h3 := (Plain.size_bounds (n := 2 * s.arcs.length + 1) (by omega)).2
  have h4 := (Plain.size_bounds (n := 2 * s.arcs.length) (by omega)).2
  simp only [layS, headS, List.length_append]
  split
  · rw [List.length_append, Plain.enc_length, Plain.enc_length]; omega
  · rw [Plain.enc_length]; omega
theorem laySs_le6 : ∀ (l : List DSt) (i : Nat), i + l.length < 18446744073709551616 → (∀ s ∈ l, s.arcs.length ≤ 256) → (∀ s ∈ l, s.ok) → maySs i l = true → ∀ k, (∀ s ∈ l, s.arcs.length ≤ k) → (laySs i l).length ≤ (18 + 19 * k) * l.length
  | [], _, _, _, _, _, _, _ => by simp [laySs]
  | s :: l, i, hi, h2, hok, hm, k, hk => by
    simp only [maySs, Bool.and_eq_true] at hm
    simp only [List.length_cons] at hi
    have h1 := layS_len (by omega) (h2 s (by simp)) (hok s (by simp)) hm.1
    have h3 := laySs_le6 l (i + 1) (by omega) (fun x hx => h2 x (by simp [hx])) (fun x hx => hok x (by simp [hx])) hm.2 k (fun x hx => hk x (by simp [hx]))
    have h4 := hk s (by simp)
    have h5 : 19 * s.arcs.length ≤ 19 * k := Nat.mul_le_mul_left _ h4
    simp only [laySs, List.length_append, List.length_cons]
    rw [Nat.mul_add, Nat.mul_one]
    omega
theorem layT_le {n init : Nat} {l : List DSt} (hn : n ≤ 100000) (hi : init < 18446744073709551616) (h : Formed l) : (layT n l init).length ≤ 2000 := by
  have hl := h.len
  have h1 := laySs_le6 l 0 (by omega) (fun s hs => Nat.le_trans (h.arcs s hs) (by omega)) h.ok h.may 6 h.arcs
  have h2 := (Plain.size_bounds hi).2
  have h3 := (Plain.size_bounds (n := n) (by omega)).2
  have h4 := (Plain.size_bounds (n := l.length) (by omega)).2
  simp only [layT, magicL, List.length_append, Plain.enc_length, List.length_cons, List.length_nil]
  omega
theorem formed_may {n : Nat} {l : List DSt} (hn : n ≤ 100000) (h : Formed l) : mayT (n : Int) l = true := by
  have hl := h.ne
  unfold mayT
  rw [h.may]
  cases l with
  | nil => exact absurd rfl hl
  | cons x l => simp; omega
theorem formed_back {n init : Nat} {l : List DSt} (hn : n ≤ 100000) (hi : init < 18446744073709551616) (h : Formed l) : bodyR (layT n l init) = .ok (n, l, init) :=
  bodyR_lay hn hi h.ne (by have := h.len; omega) h.ok h.may

end Go.Proofs.YtjiilmiikejnhaaDoor

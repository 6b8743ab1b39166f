/-
  PackBack: what its calls answer.
-/
import Derived.Test.YtjiilmiikejnhaaDoorP13
import Derived.Test.YtjiilmiikejnhaaDoorP27
import Derived.Test.YtjiilmiikejnhaaDoorP28
set_option linter.unusedVariables false
set_option linter.unusedSimpArgs false
namespace Go.Proofs.YtjiilmiikejnhaaDoor
open Go.RowKit Go.Shelf Said

theorem sealed_opened {y : ByteArray} (h : isSeal y = true) : sealed (opened y) = y := by
  have h' := h
  unfold isSeal at h'
  simp only [Bool.and_eq_true, decide_eq_true_eq] at h'
  obtain ⟨h4, h5⟩ := h'
  have e := (body_last y h4).1
  have h6 : opened y = body y := by unfold opened; rw [if_pos h]
  rw [h6]
  have e2 : (sealed (body y)).data.toList = y.data.toList := by
    rw [sealed_list, e, h5]
    rfl
  exact ByteArray.ext (Array.toList_inj.1 e2)
theorem readR_ok {y : ByteArray} (hy : y.size ≤ 1000) {n init : Nat} {l : List DSt} (h : readR y = .ok (n, l, init)) :
    y = sealed ⟨(layT n l init).toArray⟩ ∧ n ≤ 100000 ∧ init < 18446744073709551616 ∧ l ≠ [] ∧ (∀ x ∈ l, x.ok) ∧ maySs 0 l = true ∧ l.length ≤ 1000 ∧ (layT n l init).length ≤ 1000 := by
  unfold readR at h
  split at h
  · rename_i hs
    have ho : (opened y).data.toList.length ≤ 1000 := by
      have := opened_size y
      have e : (opened y).data.toList.length = (opened y).size := rfl
      omega
    obtain ⟨h1, h2, h3, h4, h5, h6, h7⟩ := bodyR_ok (by omega) h
    refine ⟨?_, h2, h3, h4, h5, h6, by omega, by rw [← h1]; exact ho⟩
    rw [← h1]
    exact (sealed_opened hs).symm
  · cases h
theorem maySs_arcs : ∀ {l : List DSt} {o : Nat}, maySs o l = true → ∀ s ∈ l, s.arcs.length ≤ 256
  | [], _, _ => by simp
  | x :: l, o, h => by
    simp only [maySs, Bool.and_eq_true] at h
    intro s hs
    rcases List.mem_cons.1 hs with rfl | hs
    · have := h.1
      simp only [mayS, Bool.and_eq_true, decide_eq_true_eq] at this
      exact this.1
    · exact maySs_arcs h.2 s hs
theorem mayT_of {n : Nat} {l : List DSt} (hn : n ≤ 100000) (hl : l ≠ []) (h : maySs 0 l = true) : mayT (n : Int) l = true := by
  unfold mayT
  rw [h]
  cases l with
  | nil => exact absurd rfl hl
  | cons x l => simp; omega
/-- What is read of some bytes is laid again just so. -/
theorem again_put {y : ByteArray} (hy : y.size ≤ 1000) {n init : Nat} {l : List DSt} (h : readR y = .ok (n, l, init)) {W : World} (hF : Fours W) {v : Value} (hv : Sts W v l) :
    Calls Tryd.prog 11 #[.int .i64 (n : Int), .agg #[v, .int .u64 (init : Int)]] W fun e w' => e = .returned (.tuple #[.string y, .int .i64 0]) ∧ Below W.heap.size W w' := by
  obtain ⟨h1, h2, h3, h4, h5, h6, h7, h8⟩ := readR_ok hy h
  have := packPut_yes hF hv (by omega) (fun s hs => Nat.le_trans (maySs_arcs h6 s hs) (by omega)) (mayT_of h2 h4 h6) h2 h3 h6 h5 (by omega)
  rwa [← h1] at this
theorem formed_put {n init : Nat} {l : List DSt} (hn : n ≤ 100000) (hi : init < 18446744073709551616) (h : Formed l) {W : World} (hF : Fours W) {v : Value} (hv : Sts W v l) :
    Calls Tryd.prog 11 #[.int .i64 (n : Int), .agg #[v, .int .u64 (init : Int)]] W fun e w' => e = .returned (.tuple #[.string (sealed ⟨(layT n l init).toArray⟩), .int .i64 0]) ∧ Below W.heap.size W w' :=
  packPut_yes hF hv (by have := h.len; omega) (fun s hs => Nat.le_trans (h.arcs s hs) (by omega)) (formed_may hn h) hn hi h.may h.ok (by have := layT_le hn hi h; omega)
theorem formed_get {n init : Nat} {l : List DSt} (hn : n ≤ 100000) (hi : init < 18446744073709551616) (h : Formed l) {W : World} (hF : Fours W) :
    Calls Tryd.prog 18 #[.string (sealed ⟨(layT n l init).toArray⟩)] W fun e w' => ∃ ad c, e = .returned (.tuple #[.int .i64 (n : Int), .agg #[.slice ad l.length c, .int .u64 (init : Int)], .nilIface]) ∧ Sts w' (.slice ad l.length c) l ∧ Below W.heap.size W w' := by
  have hl := layT_le hn hi h
  have q := packGet_any hF (s := sealed ⟨(layT n l init).toArray⟩) (by rw [sealed_size]; show (layT n l init).toArray.size + 4 ≤ _; simp; omega)
  rw [readR_sealed, show bodyR (⟨(layT n l init).toArray⟩ : ByteArray).data.toList = .ok (n, l, init) from formed_back hn hi h] at q
  refine q.mono ?_
  rintro e w' ⟨⟨v, xs, rfl, h1, h2⟩, h3⟩
  have hs := h1.sts
  rw [h2] at hs
  obtain ⟨ad, c, rfl, hc⟩ := hs
  exact ⟨ad, c, rfl, ⟨ad, c, rfl, hc⟩, h3⟩
theorem sealed_inj {a b : ByteArray} (h : sealed a = sealed b) : a = b := by rw [← opened_sealed a, h, opened_sealed]
theorem formed_inj {n m i j : Nat} {F G : List DSt} (hn : n ≤ 100000) (hm : m ≤ 100000) (hi : i < 18446744073709551616) (hj : j < 18446744073709551616) (hF : Formed F) (hG : Formed G) :
    (sealed ⟨(layT n F i).toArray⟩ = sealed ⟨(layT m G j).toArray⟩) ↔ (n = m ∧ i = j ∧ F = G) := by
  constructor
  · intro h
    have h1 := sealed_inj h
    have h2 : layT n F i = layT m G j := by
      have := congrArg (fun x : ByteArray => x.data.toList) h1
      simpa using this
    have e1 := formed_back hn hi hF
    rw [h2, formed_back hm hj hG] at e1
    simp only [Except.ok.injEq, Prod.mk.injEq] at e1
    exact ⟨e1.1.symm, e1.2.2.symm, e1.2.1.symm⟩
  · rintro ⟨rfl, rfl, rfl⟩
    rfl
/-- Get, of any bytes that are not long: the values have their shapes. -/
theorem get_shape {y : ByteArray} (hy : y.size ≤ 1000) {W : World} (hF : Fours W) :
    Calls Tryd.prog 18 #[.string y] W fun e w' => Below W.heap.size W w' ∧ ((∃ n l init ad c, readR y = .ok (n, l, init) ∧ e = .returned (.tuple #[.int .i64 (n : Int), .agg #[.slice ad l.length c, .int .u64 (init : Int)], .nilIface]) ∧ Sts w' (.slice ad l.length c) l) ∨
      ∃ bf, e = .returned (.tuple #[.int .i64 0, .agg #[.slice none 0 0, .int .u64 0], .iface 88 (.pointer (some ⟨bf, 0, none⟩))])) := by
  have q := packGet_any hF (s := y) (by omega)
  cases hr : readR y with
  | error e =>
    rw [hr] at q
    refine q.mono ?_
    rintro e w' ⟨⟨bf, rfl, h1, h2⟩, h3⟩
    exact ⟨h3, .inr ⟨bf, rfl⟩⟩
  | ok r =>
    obtain ⟨n, l, init⟩ := r
    rw [hr] at q
    refine q.mono ?_
    rintro e w' ⟨⟨v, xs, rfl, h1, h2⟩, h3⟩
    have hs := h1.sts
    rw [h2] at hs
    obtain ⟨ad, c, rfl, hc⟩ := hs
    exact ⟨h3, .inl ⟨n, l, init, ad, c, rfl, rfl, ⟨ad, c, rfl, hc⟩⟩⟩
theorem get_ok' {y : ByteArray} (hy : y.size ≤ 1000) {n init : Nat} {l : List DSt} (hr : readR y = .ok (n, l, init)) {W : World} (hF : Fours W) :
    Calls Tryd.prog 18 #[.string y] W fun e w' => ∃ ad c, e = .returned (.tuple #[.int .i64 (n : Int), .agg #[.slice ad l.length c, .int .u64 (init : Int)], .nilIface]) ∧ Sts w' (.slice ad l.length c) l ∧ Below W.heap.size W w' := by
  have q := packGet_any hF (s := y) (by omega)
  rw [hr] at q
  refine q.mono ?_
  rintro e w' ⟨⟨v, xs, rfl, h1, h2⟩, h3⟩
  have hs := h1.sts
  rw [h2] at hs
  obtain ⟨ad, c, rfl, hc⟩ := hs
  exact ⟨ad, c, rfl, ⟨ad, c, rfl, hc⟩, h3⟩
theorem get_err {y : ByteArray} (hy : y.size ≤ 1000) {c p : Nat} (hr : readR y = .error (c, p)) {W : World} (hF : Fours W) :
    Calls Tryd.prog 18 #[.string y] W fun e w' => ∃ bf, e = .returned (.tuple #[.int .i64 0, .agg #[.slice none 0 0, .int .u64 0], .iface 88 (.pointer (some ⟨bf, 0, none⟩))]) ∧ FltB w' bf (c : Int) (p : Int) ∧ Below W.heap.size W w' := by
  have q := packGet_any hF (s := y) (by omega)
  rw [hr] at q
  refine q.mono ?_
  rintro e w' ⟨⟨bf, rfl, h1, h2⟩, h3⟩
  exact ⟨bf, rfl, h2, h3⟩
end Go.Proofs.YtjiilmiikejnhaaDoor

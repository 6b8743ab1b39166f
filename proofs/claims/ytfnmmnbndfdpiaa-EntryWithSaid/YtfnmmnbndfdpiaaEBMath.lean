/-
  Of EntryBack: what is put is had again, and what is had is put just so.
-/
import Derived.Test.YtfnmmnbndfdpiaaEPMath
import Derived.Test.YtfnmmnbndfdpiaaEMath
namespace Go.Proofs.Ytfnmmnbndfdpiaa
open Go.RowKit Go.Sort

theorem getT_one (r : List UInt8) : getT (1 :: r) = if (Plain.get (1 :: r) 1).2.2 ≠ 0 then (noE, (Plain.get (1 :: r) 1).2.2) else if 4294967295 < (Plain.get (1 :: r) 1).1 then (noE, 17) else chkT ((1 :: r).drop (Plain.get (1 :: r) 1).2.1.toNat) (Plain.get (1 :: r) 1).1 false := rfl
theorem getT_two (r : List UInt8) : getT (2 :: r) = chkT r 0 true := rfl

theorem strO_word (e : Ent) : strO (key e) = e.word := strO_of e.word

theorem get_first (r : List UInt8) (n : Nat) (hn : n < 18446744073709551616) : Plain.get (1 :: (Plain.enc n ++ r)) 1 = (n, ((1 + Plain.size n : Nat) : Int), 0) := by
  have hs := (Plain.size_bounds hn).1
  have h := Plain.get_at (s := 1 :: (Plain.enc n ++ r)) (k := 1) (by rw [List.length_cons, List.length_append, Plain.enc_length]; omega)
  rw [show List.drop 1 (1 :: (Plain.enc n ++ r)) = Plain.enc n ++ r from rfl, Plain.getL_enc hn] at h
  rw [show ((1 : Nat) : Int) = 1 from rfl] at h
  rw [h]
  simp

theorem get_put (e : Ent) (hw : wordT e.word = true) (hn : e.weight < 4294967296) (hb : bare e = e) : getT (putT e).1 = (e, 0) ∧ (putT e).2 = 0 := by
  unfold putT
  rw [if_neg (by simp [hw])]
  cases hg : e.gone with
  | true =>
    rw [if_pos rfl]
    refine ⟨?_, rfl⟩
    show getT (2 :: key e) = _
    have h0 : e.weight = 0 := by
      have := congrArg Ent.weight hb
      unfold bare at this
      rw [if_pos hg] at this
      exact this.symm
    rw [getT_two]
    unfold chkT
    rw [strO_word, if_pos hw]
    cases e; simp_all
  | false =>
    rw [if_neg (by simp)]
    refine ⟨?_, rfl⟩
    show getT (1 :: (Plain.enc e.weight ++ key e)) = _
    rw [getT_one, get_first _ _ (by omega), if_neg (by simp), if_neg (by simp; omega)]
    rw [Int.toNat_natCast, show (1 :: (Plain.enc e.weight ++ key e)).drop (1 + Plain.size e.weight) = key e by
      rw [Nat.add_comm, List.drop_succ_cons, ← Plain.enc_length, List.drop_left']
      rfl]
    unfold chkT
    rw [strO_word, if_pos hw]
    cases e; simp_all

theorem put_get (t : List UInt8) (z : Ent) (h : getT t = (z, 0)) : putT z = (t, 0) ∧ wordT z.word = true ∧ bare z = z ∧ z.weight < 4294967296 := by
  cases t with
  | nil => cases h
  | cons b r =>
    by_cases h1 : b = 1
    · subst h1
      rw [getT_one] at h
      by_cases h2 : (Plain.get (1 :: r) 1).2.2 = 0
      · rw [if_neg (by simp [h2])] at h
        obtain ⟨k, u, hk, hnx, hu, hku, he, hlt⟩ := Plain.get_ok h2
        obtain rfl : 1 = k := by omega
        rw [hnx] at h
        obtain ⟨m, hm⟩ : ∃ m, (Plain.get (1 :: r) 1).1 = m := ⟨_, rfl⟩
        rw [hm] at h he hlt
        by_cases h3 : 4294967295 < m
        · rw [if_pos h3] at h; cases h
        · rw [if_neg h3] at h
          unfold chkT at h
          by_cases hw : wordT (strO ((1 :: r).drop (((1 + u : Nat) : Int)).toNat)) = true
          · rw [if_pos hw] at h
            cases h
            rw [Int.toNat_natCast] at hw ⊢
            refine ⟨?_, hw, rfl, by show m < _; omega⟩
            unfold putT
            rw [if_neg (by simp [hw])]
            show (1 :: (Plain.enc m ++ (strO ((1 :: r).drop (1 + u))).data.toList), 0) = _
            rw [strO_key, he, show List.drop 1 (1 :: r) = r from rfl, Nat.add_comm, List.drop_succ_cons, List.take_append_drop]
          · rw [if_neg hw] at h; cases h
      · rw [if_pos h2] at h
        exact absurd (congrArg Prod.snd h) h2
    · by_cases h2 : b = 2
      · subst h2
        rw [getT_two] at h
        unfold chkT at h
        by_cases hw : wordT (strO r) = true
        · rw [if_pos hw] at h
          cases h
          refine ⟨?_, hw, rfl, Nat.succ_pos _⟩
          unfold putT
          rw [if_neg (by simp [hw])]
          rfl
        · rw [if_neg hw] at h; cases h
      · rw [show getT (b :: r) = (noE, 6) by show (if b = 1 then _ else _) = _; rw [if_neg h1, if_neg h2]] at h
        cases h

/-- Two entries have one row of bytes only if they are one. -/
theorem put_inj {x y : Ent} (hx : wordT x.word = true) (hy : wordT y.word = true) (nx : x.weight < 4294967296) (ny : y.weight < 4294967296) (bx : bare x = x) (hb : bare y = y) (h : (putT x).1 = (putT y).1) : x = y := by
  have h1 := (get_put x hx nx bx).1
  have h2 := (get_put y hy ny hb).1
  rw [h, h2] at h1
  exact (congrArg Prod.fst h1).symm

theorem of_value {x : Ent} (nx : x.weight < 4294967296) (bx : bare x = x) : ofT x.word (valueT x) = (x, true) := by
  unfold valueT ofT
  cases hg : x.gone with
  | true =>
    rw [if_pos rfl, if_pos rfl]
    have h0 : x.weight = 0 := by
      have := congrArg Ent.weight bx
      unfold bare at this
      rw [if_pos hg] at this
      exact this.symm
    cases x; simp_all
  | false =>
    rw [if_neg (by simp : ¬ false = true), if_neg (Nat.succ_ne_zero _), if_pos (by omega), Nat.add_sub_cancel]
    cases x; simp_all

/-- What is had, but with an error, is nothing. -/
theorem chk_bad {x : List UInt8} {n : Nat} {g : Bool} {z : Ent} {c : Nat} (h : chkT x n g = (z, c)) (hc : c ≠ 0) : z = noE := by
  unfold chkT at h
  by_cases hw : wordT (strO x) = true
  · rw [if_pos hw] at h; exact absurd (congrArg Prod.snd h).symm hc
  · rw [if_neg hw] at h; exact (congrArg Prod.fst h).symm
theorem get_bad {t : List UInt8} {z : Ent} {c : Nat} (h : getT t = (z, c)) (hc : c ≠ 0) : z = noE := by
  cases t with
  | nil => exact (congrArg Prod.fst h).symm
  | cons b r =>
    by_cases h1 : b = 1
    · subst h1
      rw [getT_one] at h
      by_cases h2 : (Plain.get (1 :: r) 1).2.2 ≠ 0
      · rw [if_pos h2] at h; exact (congrArg Prod.fst h).symm
      · rw [if_neg h2] at h
        by_cases h3 : 4294967295 < (Plain.get (1 :: r) 1).1
        · rw [if_pos h3] at h; exact (congrArg Prod.fst h).symm
        · rw [if_neg h3] at h; exact chk_bad h hc
    · by_cases h2 : b = 2
      · subst h2; rw [getT_two] at h; exact chk_bad h hc
      · rw [show getT (b :: r) = (noE, 6) by show (if b = 1 then _ else _) = _; rw [if_neg h1, if_neg h2]] at h
        exact (congrArg Prod.fst h).symm
end Go.Proofs.Ytfnmmnbndfdpiaa

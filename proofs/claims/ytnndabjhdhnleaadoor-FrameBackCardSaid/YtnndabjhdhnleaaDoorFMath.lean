/-
  Frames, as plain functions of bytes: a payload's frame, what stands at a place, and all frames from a place on.
-/
import Derived.Test.YtnndabjhdhnleaaDoorCrcSeal
import Derived.Test.YtnndabjhdhnleaaDoorVGet
namespace Go.Proofs.YtnndabjhdhnleaaDoor

/-- A payload with its number ahead of it. -/
def headed (p : ByteArray) : ByteArray := ⟨(Plain.enc p.size).toArray⟩ ++ p

/-- Its frame. -/
def frameOf (p : ByteArray) : ByteArray := sealed (headed p)

/-- May a payload have that many bytes? -/
def fits (n : Nat) : Bool := decide (1 ≤ n ∧ n ≤ 300)

/-- What stands at a place: the payload, the place behind it, the error. -/
def fget (s : ByteArray) (a : Int) : ByteArray × Int × Nat :=
  if a < 0 ∨ (s.size : Int) < a then (⟨#[]⟩, a, 2)
  else if a = (s.size : Int) then (⟨#[]⟩, a, 9)
  else if (Plain.get s.data.toList a).2.2 ≠ 0 then (⟨#[]⟩, a, (Plain.get s.data.toList a).2.2)
  else if fits (Plain.get s.data.toList a).1 = false then (⟨#[]⟩, a, 4)
  else if s.size < (Plain.get s.data.toList a).2.1.toNat + (Plain.get s.data.toList a).1 + 4 then (⟨#[]⟩, a, 3)
  else if isSeal (s.extract a.toNat ((Plain.get s.data.toList a).2.1.toNat + (Plain.get s.data.toList a).1 + 4)) = false then (⟨#[]⟩, a, 16)
  else (s.extract (Plain.get s.data.toList a).2.1.toNat ((Plain.get s.data.toList a).2.1.toNat + (Plain.get s.data.toList a).1), (((Plain.get s.data.toList a).2.1.toNat + (Plain.get s.data.toList a).1 + 4 : Nat) : Int), 0)

theorem fits_true {n : Nat} (h : fits n = true) : 1 ≤ n ∧ n ≤ 300 := by unfold fits at h; exact of_decide_eq_true h
theorem fits_false {n : Nat} (h : fits n = false) : n < 1 ∨ 300 < n := by unfold fits at h; have := of_decide_eq_false h; omega

theorem fget_out {s : ByteArray} {a : Int} (h : a < 0 ∨ (s.size : Int) < a) : fget s a = (⟨#[]⟩, a, 2) := by unfold fget; rw [if_pos h]
theorem fget_end {s : ByteArray} {a : Int} (h : a = (s.size : Int)) : fget s a = (⟨#[]⟩, a, 9) := by unfold fget; rw [if_neg (by omega), if_pos h]

/-- What is told of a number that can't be had. -/
theorem fget_num {s : ByteArray} {a : Int} (h0 : 0 ≤ a) (h1 : a < (s.size : Int)) {r : Nat × Int × Nat} (hr : Plain.get s.data.toList a = r) (he : r.2.2 ≠ 0) : fget s a = (⟨#[]⟩, a, r.2.2) := by
  unfold fget; rw [if_neg (by omega), if_neg (by omega), hr, if_pos he]

theorem fget_long {s : ByteArray} {a : Int} (h0 : 0 ≤ a) (h1 : a < (s.size : Int)) {n : Nat} {f : Int} (hr : Plain.get s.data.toList a = (n, f, 0)) (hn : fits n = false) : fget s a = (⟨#[]⟩, a, 4) := by
  unfold fget; rw [if_neg (by omega), if_neg (by omega), hr, if_neg (by simp), if_pos hn]

theorem fget_short {s : ByteArray} {a : Int} (h0 : 0 ≤ a) (h1 : a < (s.size : Int)) {n : Nat} {f : Int} (hr : Plain.get s.data.toList a = (n, f, 0)) (hn : fits n = true) (hs : s.size < f.toNat + n + 4) : fget s a = (⟨#[]⟩, a, 3) := by
  unfold fget; rw [if_neg (by omega), if_neg (by omega), hr, if_neg (by simp), if_neg (by simp [hn]), if_pos hs]

theorem fget_sum {s : ByteArray} {a : Int} (h0 : 0 ≤ a) (h1 : a < (s.size : Int)) {n : Nat} {f : Int} (hr : Plain.get s.data.toList a = (n, f, 0)) (hn : fits n = true) (hs : ¬ s.size < f.toNat + n + 4) (hb : isSeal (s.extract a.toNat (f.toNat + n + 4)) = false) : fget s a = (⟨#[]⟩, a, 16) := by
  unfold fget; rw [if_neg (by omega), if_neg (by omega), hr, if_neg (by simp), if_neg (by simp [hn]), if_neg hs, if_pos hb]

theorem fget_ok {s : ByteArray} {a : Int} (h0 : 0 ≤ a) (h1 : a < (s.size : Int)) {n : Nat} {f : Int} (hr : Plain.get s.data.toList a = (n, f, 0)) (hn : fits n = true) (hs : ¬ s.size < f.toNat + n + 4) (hb : isSeal (s.extract a.toNat (f.toNat + n + 4)) = true) :
    fget s a = (s.extract f.toNat (f.toNat + n), ((f.toNat + n + 4 : Nat) : Int), 0) := by
  unfold fget; rw [if_neg (by omega), if_neg (by omega), hr, if_neg (by simp), if_neg (by simp [hn]), if_neg hs, if_neg (by simp [hb])]

/-- What is said of bytes by what stands there. -/
theorem fget_bad {s : ByteArray} {a : Int} (h : (fget s a).2.2 ≠ 0) : (fget s a).1 = ⟨#[]⟩ ∧ (fget s a).2.1 = a := by
  unfold fget at h ⊢
  split
  · exact ⟨rfl, rfl⟩
  · split
    · exact ⟨rfl, rfl⟩
    · split
      · exact ⟨rfl, rfl⟩
      · split
        · exact ⟨rfl, rfl⟩
        · split
          · exact ⟨rfl, rfl⟩
          · split
            · exact ⟨rfl, rfl⟩
            · rename_i h1 h2 h3 h4 h5 h6
              rw [if_neg h1, if_neg h2, if_neg h3, if_neg h4, if_neg h5, if_neg h6] at h
              simp at h

/-- The parts of a frame that stands at a place. -/
structure Stands (s : ByteArray) (a : Int) (p : ByteArray) (next : Int) : Prop where
  it : ∃ k u : Nat, a = (k : Int) ∧ Plain.get s.data.toList a = (p.size, ((k + u : Nat) : Int), 0) ∧ Plain.size p.size = u ∧ fits p.size = true ∧ k + u + p.size + 4 ≤ s.size ∧
    isSeal (s.extract k (k + u + p.size + 4)) = true ∧ p = s.extract (k + u) (k + u + p.size) ∧ next = ((k + u + p.size + 4 : Nat) : Int) ∧ (s.data.toList.drop k).take u = Plain.enc p.size

theorem fget_stands {s : ByteArray} {a : Int} (h : (fget s a).2.2 = 0) : Stands s a (fget s a).1 (fget s a).2.1 := by
  have hh := h
  unfold fget at h
  split at h
  · cases h
  · rename_i h1
    split at h
    · cases h
    · rename_i h2
      split at h
      · rename_i h3; exact absurd h h3
      · rename_i h3
        split at h
        · cases h
        · rename_i h4
          split at h
          · cases h
          · rename_i h5
            split at h
            · cases h
            · rename_i h6
              obtain ⟨k, u, hk, hn, hu, hku, henc, h64⟩ := Plain.get_ok (s := s.data.toList) (p := a) (by simpa using h3)
              obtain ⟨⟨n, f, e⟩, hr⟩ : ∃ r, Plain.get s.data.toList a = r := ⟨_, rfl⟩
              rw [hr] at h3 h4 h5 h6 hn henc h64
              dsimp only at h3 h4 h5 h6 hn henc h64
              have he : e = 0 := by simpa using h3
              subst he hk hn
              have hfit : fits n = true := by simpa using h4
              have hseal : isSeal (s.extract (k : Int).toNat (((k + u : Nat) : Int).toNat + n + 4)) = true := by simpa using h6
              rw [fget_ok (by omega) (by omega) hr hfit h5 hseal]
              rw [Int.toNat_natCast] at h5 hseal ⊢
              rw [Int.toNat_natCast] at hseal
              have hps : (s.extract (k + u) (k + u + n)).size = n := by rw [ByteArray.size_extract]; omega
              refine ⟨⟨k, u, rfl, ?_, ?_, ?_, ?_, ?_, ?_, ?_, ?_⟩⟩
              · dsimp only; rw [hps, hr]
              · dsimp only; rw [hps]
                have := congrArg List.length henc
                rw [Plain.enc_length, List.length_take, List.length_drop] at this
                omega
              · dsimp only; rw [hps]; exact hfit
              · dsimp only; rw [hps]; omega
              · dsimp only; rw [hps]; exact hseal
              · dsimp only; rw [hps]
              · dsimp only; rw [hps]
              · dsimp only; rw [hps]; exact henc.symm

/-- All frames from a place on, behind those that have been had; the place of the end, or of what is bad; and why. -/
def fallFrom (s : ByteArray) : Nat → List ByteArray → Int → List ByteArray × Int × Nat
  | 0, acc, a => (acc, a, 0)
  | k + 1, acc, a => if (fget s a).2.2 = 0 then fallFrom s k (acc ++ [(fget s a).1]) (fget s a).2.1 else (acc, (fget s a).2.1, if (fget s a).2.2 = 9 then 0 else (fget s a).2.2)
def fall (s : ByteArray) : List ByteArray × Int × Nat := fallFrom s (s.size + 1) [] 0

theorem fallFrom_ok {s : ByteArray} {k : Nat} {acc : List ByteArray} {a : Int} (h : (fget s a).2.2 = 0) : fallFrom s (k + 1) acc a = fallFrom s k (acc ++ [(fget s a).1]) (fget s a).2.1 := by rw [fallFrom, if_pos h]
theorem fallFrom_bad {s : ByteArray} {k : Nat} {acc : List ByteArray} {a : Int} (h : (fget s a).2.2 ≠ 0) : fallFrom s (k + 1) acc a = (acc, a, if (fget s a).2.2 = 9 then 0 else (fget s a).2.2) := by
  rw [fallFrom, if_neg h, (fget_bad h).2]

/-- One frame is behind the place ahead of it, by six bytes at least, and within the bytes. -/
theorem stands_next {s : ByteArray} {a : Int} {p : ByteArray} {next : Int} (h : Stands s a p next) : 0 ≤ a ∧ a + 6 ≤ next ∧ next ≤ s.size ∧ p.size ≤ 300 ∧ 1 ≤ p.size := by
  obtain ⟨k, u, rfl, _, hu, hf, hs, _, _, rfl, _⟩ := h.it
  obtain ⟨h1, h2⟩ := fits_true hf
  have := Plain.size_bounds (n := p.size) (by omega)
  omega
end Go.Proofs.YtnndabjhdhnleaaDoor

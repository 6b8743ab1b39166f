/-
  The row of what was read at each time, in memory.
-/
import Derived.Test.YtloijbhilfbliaaFHas
namespace Go.Proofs.Ytloijbhilfbliaa
open Go.RowKit Go.Shelf

theorem reads_appS (D : List UInt8) (A : List Do) (b : List UInt8) : reads D (appT A b) = reads D A ++ b := by
  unfold appT
  split
  · next h => rw [h, List.append_nil]
  · rw [reads_snoc]; rfl
theorem reads_cutS (D R : List UInt8) (A : List Do) (k : Int) (hR : reads D A = R) (h0 : 0 ≤ k) (hk : k < R.length) : cutT R A k = A ++ [.cut k.toNat] ∧ reads D (cutT R A k) = R.take k.toNat := by
  unfold cutT
  rw [if_pos ⟨h0, hk⟩, reads_snoc, hR]
  exact ⟨rfl, rfl⟩
theorem cutT_not (R : List UInt8) (A : List Do) (k : Int) (h : ¬ (0 ≤ k ∧ k < R.length)) : cutT R A k = A := by
  unfold cutT
  rw [if_neg h]

theorem owns_some {w : World} {base n N : Nat} {v : Value} {xs : List Value} (h : w.ownsRow base 9 1 v n xs) (hn : n = N) (hp : 0 < n) : ∃ g c, v = .slice (some ⟨g, 0, none⟩) N c := by
  subst hn
  rcases h.2 with ⟨rfl, h0⟩ | ⟨g, cap, cur, rfl, _⟩
  · omega
  · exact ⟨g, cap, rfl⟩

/-- What the row has at each place. -/
theorem solo_row {w0 w : World} {p g N c : Nat} {D E : List UInt8} {A B : List Do} (h : Solo w0 w p E B (.slice (some ⟨g, 0, none⟩) N c) (timesT D A)) :
    N = A.length + 1 ∧ N ≤ c ∧ c ≤ 9223372036854775807 ∧ ∀ W, Below w.heap.size w W → ∀ k, k ≤ A.length → W.cell? ⟨g, k, none⟩ = some (.string (strO (reads D (A.take k)))) := by
  have ho := h.shape.2
  rw [timesT_length] at ho
  rcases ho.2 with ⟨hv, _⟩ | ⟨g', cap, cur, hv, _, hg, h1, h2, h3, ht⟩
  · cases hv
  · cases hv
    refine ⟨rfl, h1, by unfold maxLen at h2; exact h2, fun W hW k hk => ?_⟩
    have hl := (Array.getElem?_eq_some_iff.1 hg).1
    rw [cell_of_row W _ _ _ _ _ ((hW.block _ hl).trans hg), ← Array.getElem?_toList]
    have hx : (strs (timesT D A))[k]? = some (.string (strO (reads D (A.take k)))) := by
      have := timesT_at D A k hk
      rw [List.getD_eq_getElem?_getD] at this
      have hk' : k < (timesT D A).length := by rw [timesT_length]; omega
      rw [List.getElem?_eq_getElem hk'] at this
      simp only [Option.getD_some] at this
      unfold strs
      rw [List.getElem?_map, List.getElem?_eq_getElem hk', this]
      rfl
    rw [← ht, List.getElem?_take] at hx
    split at hx
    · exact hx
    · cases hx
theorem solo_some {w0 w : World} {p : Nat} {D : List UInt8} {A : List Do} {v : Value} (h : Solo w0 w p D A v (timesT D A)) : ∃ g c N, v = .slice (some ⟨g, 0, none⟩) N c ∧ N = A.length + 1 := by
  have ho := h.shape.2
  rw [timesT_length] at ho
  obtain ⟨g, c, hv⟩ := owns_some ho rfl (by omega)
  exact ⟨g, c, _, hv, rfl⟩

/-- The row with what is read now. -/
theorem Solo.more {w0 w w1 w2 : World} {p : Nat} {D : List UInt8} {A A2 : List Do} {a : Do} {v v' : Value} {S : ByteArray} {N : Nat} (h : Solo w0 w p D A2 v (timesT D A)) (ha : A2 = A ++ [a]) (hS : strO (reads D A2) = S) (hb : Below w.heap.size w w1) (hN : N = A.length + 1)
    (ho : w2.ownsRow w0.heap.size 9 1 v' (N + 1) (strs (timesT D A) ++ [.string S])) (hg : w1.grownBy w2 v.ownBlock) (hv : v'.ownBlock = v.ownBlock ∨ v'.ownBlock = some w1.heap.size) : Solo w0 w2 p D A2 v' (timesT D A2) := by
  have := h.grow hb (x := S) (by rw [timesT_length, ← hN]; exact ho) hg hv
  rw [ha, timesT_snoc, ← ha, hS]
  exact this
theorem Solo.reset {w0 w : World} {p : Nat} {R : List UInt8} {v : Value} {xs : List ByteArray} {S : ByteArray} (h : Solo w0 w p R [] v xs) (hS : strO R = S) : Solo w0 (w.alloc (.cells #[.string S] 9)) p R [] (.slice (some ⟨w.heap.size, 0, none⟩) 1 1) (timesT R []) := by
  rw [timesT_nil, hS]
  exact h.fresh S
theorem Solo.owns {w0 w : World} {p : Nat} {D E : List UInt8} {A B : List Do} {v : Value} {N : Nat} (h : Solo w0 w p E B v (timesT D A)) (hN : N = A.length + 1) : w.ownsRow w0.heap.size 9 1 v N (strs (timesT D A)) := by
  have := h.shape.2
  rw [timesT_length, ← hN] at this
  exact this

/-- The three things that are asked of the file at each round. -/
theorem Solo.three {w0 w : World} {p : Nat} {D : List UInt8} {A : List Do} {v : Value} {xs : List ByteArray} (h : Solo w0 w p D A v xs) {S SD : ByteArray} (hS : strO (reads D A) = S) (hD : strO D = SD) :
    (Calls Try.prog 14 #[.pointer (some ⟨p, 0, none⟩)] w fun e w' => e = .returned (.string S) ∧ w = w') ∧ (Calls Try.prog 18 #[.pointer (some ⟨p, 0, none⟩)] w fun e w' => e = .returned (.string SD) ∧ w = w') ∧
      (Calls Try.prog 19 #[.pointer (some ⟨p, 0, none⟩)] w fun e w' => e = .returned (.int .i64 (A.length : Nat)) ∧ w = w') ∧ (Calls Try.prog 15 #[.pointer (some ⟨p, 0, none⟩)] w fun e w' => e = .returned (.int .i64 ((reads D A).length : Nat)) ∧ w = w') := by
  subst hS hD
  exact ⟨h.read fun _ _ hf => bytes_any hf, h.read fun _ _ hf => durable_any hf, h.read fun _ _ hf => acts_any hf, h.read fun _ _ hf => len_any hf⟩

theorem same_below {P : Program} {f : FuncId} {args : Array Value} {w : World} {r : Value} (h : Calls P f args w fun e w' => e = .returned r ∧ w = w') : Calls P f args w fun e w' => e = .returned r ∧ Below w.heap.size w w' :=
  h.mono fun _ _ h' => ⟨h'.1, h'.2 ▸ Below.refl _ _⟩
end Go.Proofs.Ytloijbhilfbliaa

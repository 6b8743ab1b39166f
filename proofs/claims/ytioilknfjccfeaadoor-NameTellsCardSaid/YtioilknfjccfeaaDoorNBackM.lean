/-
  NameBack: facts on two names, the law's pair.
-/
import Derived.Test.YtioilknfjccfeaaDoorNWorks
namespace Go.Proofs.YtioilknfjccfeaaDoor
open Go.RowKit Go.Sort

namespace Plain
def pairT (n m : Nat) : List Nat := if n = m then [n] else [min n m, max n m]

theorem pair_nums {k n m : Nat} (h : k = 3 ∨ k = 4) (hn : 1 ≤ n ∧ n ≤ 1000000000) (hm : 1 ≤ m ∧ m ≤ 1000000000) : numsT k [makeT k n, makeT k m, makeT k n, man] = pairT n m := by
  apply rises_eq (numsT_rises _ _)
  · unfold pairT
    split
    · simp
    · simp; omega
  · intro x
    rw [numsT_mem (by omega)]
    have pm : parseT man = (1, 0) := by rw [parseC_eq]; kernel_rfl
    constructor
    · rintro ⟨s, hs, h1, h2⟩
      simp only [List.mem_cons, List.not_mem_nil, or_false] at hs
      have : x = n ∨ x = m := by
        rcases hs with rfl | rfl | rfl | rfl
        · rw [parse_made h hn.1 hn.2] at h2; exact .inl h2.symm
        · rw [parse_made h hm.1 hm.2] at h2; exact .inr h2.symm
        · rw [parse_made h hn.1 hn.2] at h2; exact .inl h2.symm
        · rw [pm] at h1; simp only at h1; omega
      unfold pairT
      split
      · simp; omega
      · simp; omega
    · intro hx
      have : x = n ∨ x = m := by
        unfold pairT at hx
        split at hx
        · simp at hx; exact .inl hx
        · simp at hx; omega
      rcases this with rfl | rfl
      · exact ⟨_, List.mem_cons_self, by rw [parse_made h hn.1 hn.2], by rw [parse_made h hn.1 hn.2]⟩
      · exact ⟨_, List.mem_cons_of_mem _ List.mem_cons_self, by rw [parse_made h hm.1 hm.2], by rw [parse_made h hm.1 hm.2]⟩

theorem make_longer {k n m : Nat} (h : k = 3 ∨ k = 4) (hn : 1 ≤ n ∧ n ≤ 1000000000) (hm : 1 ≤ m ∧ m ≤ 1000000000) (hnm : n < m) : (makeT k n).size ≤ (makeT k m).size := by
  rw [make_size h hn, make_size h hm]
  have := dec_longer (n := n) (m := m) (by omega)
  omega
end Plain

theorem ints_lit1 (W : World) (n : Nat) : Ints (W.alloc (.cells #[.int .i64 (n : Int)] 3)) (.slice (some ⟨W.heap.size, 0, none⟩) 1 1) [n] := ints_new W [n] 1 1 3 rfl
theorem ints_lit2 (W : World) (n m : Nat) : Ints (W.alloc (.cells #[.int .i64 (n : Int), .int .i64 (m : Int)] 3)) (.slice (some ⟨W.heap.size, 0, none⟩) 2 2) [n, m] := ints_new W [n, m] 2 2 3 rfl

theorem pair_any (n m : Nat) (hn : n ≤ 1000000000) (hm : m ≤ 1000000000) (w : World) : Calls Tryd.prog 17 #[.int .i64 (n : Int), .int .i64 (m : Int)] w fun e w' => (∃ r, e = .returned r ∧ Ints w' r (Plain.pairT n m)) ∧ Below w.heap.size w w' := by
  by_cases h : n = m
  · subst h
    have e7 : ((n : Int) == (n : Int)) = true := by simp
    have hp : Plain.pairT n n = [n] := if_pos rfl
    rw [hp]
    clear hp
    go_enter Tryd.func17, Tryd.ntmps17
    go_wp2
    go_ret
    exact ⟨⟨_, rfl, ints_lit1 w n⟩, below_alloc' (Below.refl _ w)⟩
  · have hp : Plain.pairT n m = [min n m, max n m] := if_neg h
    rw [hp]
    have e7 : ((n : Int) == (m : Int)) = false := by simp; omega
    have e8 : ¬ (n : Int) = (m : Int) := by omega
    rcases Nat.lt_or_gt_of_ne h with hlt | hlt
    · rw [show min n m = n by omega, show max n m = m by omega]
      have e9 : (n : Int) < (m : Int) := by omega
      have e10 : ¬ (m : Int) < (n : Int) := by omega
      have emin : min (n : Int) (m : Int) = (n : Int) := by omega
      have emax : max (n : Int) (m : Int) = (m : Int) := by omega
      clear hp h
      go_enter Tryd.func17, Tryd.ntmps17
      go_wp2
      go_ret
      exact ⟨⟨_, rfl, ints_lit2 w n m⟩, below_alloc' (Below.refl _ w)⟩
    · rw [show min n m = m by omega, show max n m = n by omega]
      have e9 : ¬ (n : Int) < (m : Int) := by omega
      have e10 : (m : Int) < (n : Int) := by omega
      have emin : min (n : Int) (m : Int) = (m : Int) := by omega
      have emax : max (n : Int) (m : Int) = (n : Int) := by omega
      clear hp h
      go_enter Tryd.func17, Tryd.ntmps17
      go_wp2
      go_ret
      exact ⟨⟨_, rfl, ints_lit2 w m n⟩, below_alloc' (Below.refl _ w)⟩
end Go.Proofs.YtioilknfjccfeaaDoor

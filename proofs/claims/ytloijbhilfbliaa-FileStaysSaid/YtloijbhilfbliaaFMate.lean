/-
  Two files of the program side by side, and a row of texts, each in blocks of its own.
-/
import Derived.Test.YtloijbhilfbliaaFLaw
namespace Go.Proofs.Ytloijbhilfbliaa
open Go.RowKit Go.Shelf

/-- Two files, and a row of texts, newer than a world, and apart. -/
def Mate (w0 w : World) (p : Nat) (D : List UInt8) (A : List Do) (q : Nat) (E : List UInt8) (B : List Do) (v : Value) (xs : List ByteArray) : Prop :=
  ∃ M I N K : Nat → Prop, FileAt w p D A M I ∧ FileAt w q E B N K ∧ w.ownsRow w0.heap.size 9 1 v xs.length (strs xs) ∧ (∀ g, N g ∨ K g → ¬ M g) ∧ (∀ g, M g ∨ I g → ¬ N g) ∧ (∀ g, v.ownBlock = some g → ¬ (M g ∨ I g ∨ N g ∨ K g)) ∧
    (∀ g, M g ∨ I g ∨ N g ∨ K g → w0.heap.size ≤ g) ∧ Below w0.heap.size w0 w

section
variable {w0 w : World} {p q f : Nat} {D E G : List UInt8} {A B C : List Do} {v : Value} {xs : List ByteArray}

theorem Mate.swap (h : Mate w0 w p D A q E B v xs) : Mate w0 w q E B p D A v xs := by
  obtain ⟨M, I, N, K, h1, h2, h3, h4, h5, h6, h7, h8⟩ := h
  exact ⟨N, K, M, I, h2, h1, h3, h5, h4, fun g hg hx => h6 g hg (by rcases hx with h | h | h | h <;> simp [h]), fun g hg => h7 g (by rcases hg with h | h | h | h <;> simp [h]), h8⟩
theorem Mate.below (h : Mate w0 w p D A q E B v xs) : Below w0.heap.size w0 w := by
  obtain ⟨_, _, _, _, _, _, _, _, _, _, _, h8⟩ := h
  exact h8
theorem owns_next {w w' : World} {base size n : Nat} {e : TypeId} {v : Value} {xs : List Value} (h : w.ownsRow base e size v n xs) (hb : Below w.heap.size w w') : w'.ownsRow base e size v n xs :=
  owns_same h fun g hg => hb.block g (h.lt g hg).2
theorem Mate.next {w1 : World} (h : Mate w0 w p D A q E B v xs) (hb : Below w.heap.size w w1) : Mate w0 w1 p D A q E B v xs := by
  obtain ⟨M, I, N, K, h1, h2, h3, h4, h5, h6, h7, h8⟩ := h
  exact ⟨M, I, N, K, h1.below hb, h2.below hb, owns_next h3 hb, h4, h5, h6, h7, Below.next h8 hb⟩
theorem Mate.read {args : Array Value} {R : Ending → World → Prop} (h : Mate w0 w p D A q E B v xs) (hc : ∀ M I, FileAt w p D A M I → Calls Try.prog f args w R) : Calls Try.prog f args w R := by
  obtain ⟨M, I, _, _, h1, _⟩ := h
  exact hc M I h1

/-- A method of the first file. -/
theorem Mate.went {args : Array Value} {r : Value} (h : Mate w0 w p D A q E B v xs)
    (hc : ∀ M I, FileAt w p D A M I → Calls Try.prog f args w (Went w p G C M I r)) : Calls Try.prog f args w fun e w' => e = .returned r ∧ Mate w0 w' p G C q E B v xs := by
  obtain ⟨M, I, N, K, h1, h2, h3, h4, h5, h6, h7, h8⟩ := h
  refine (hc M I h1).mono ?_
  rintro e w' ⟨rfl, M', I', k1, k2, k3, k4⟩
  have hz := h8.size
  have old : ∀ g, g < w.heap.size → M' g → M g := fun g hl hm => by
    rcases k2 g hm with h | h
    · exact h
    · omega
  have oldI : ∀ g, g < w.heap.size → I' g → I g := fun g hl hm => by
    rcases k3 g hm with h | h
    · exact h
    · omega
  refine ⟨rfl, M', I', N, K, k1, h2.kept k4 h4, owns_same h3 fun g hg => k4.block g (h3.lt g hg).2 fun hm => h6 g hg (.inl hm), fun g hg hm => h4 g hg (old g (h2.mem g hg) hm), fun g hg hn => ?_, fun g hg hx => ?_, ?_, h8.trans (k4.to hz fun g hg => h7 g (.inl hg))⟩
  · have hl := h2.mem g (.inl hn)
    rcases hg with hg | hg
    · exact h5 g (.inl (old g hl hg)) hn
    · exact h5 g (.inr (oldI g hl hg)) hn
  · have hl := (h3.lt g hg).2
    rcases hx with hx | hx | hx
    · exact h6 g hg (.inl (old g hl hx))
    · exact h6 g hg (.inr (.inl (oldI g hl hx)))
    · exact h6 g hg (.inr (.inr hx))
  · rintro g (hg | hg | hg)
    · rcases k2 g hg with h | h
      · exact h7 g (.inl h)
      · omega
    · rcases k3 g hg with h | h
      · exact h7 g (.inr (.inl h))
      · omega
    · exact h7 g (.inr (.inr hg))

/-- The row behind an append. -/
theorem Mate.grow {w1 w2 : World} {v' : Value} {x : ByteArray} (h : Mate w0 w p D A q E B v xs) (hb : Below w.heap.size w w1) (ho : w2.ownsRow w0.heap.size 9 1 v' (xs.length + 1) (strs xs ++ [.string x])) (hg : w1.grownBy w2 v.ownBlock)
    (hv : v'.ownBlock = v.ownBlock ∨ v'.ownBlock = some w1.heap.size) : Mate w0 w2 p D A q E B v' (xs ++ [x]) := by
  obtain ⟨M, I, N, K, h1, h2, h3, h4, h5, h6, h7, h8⟩ := h
  have hz := hb.size
  have hz8 := h8.size
  have same : ∀ g, (M g ∨ I g ∨ N g ∨ K g) → g < w.heap.size → w2.heap[g]? = w.heap[g]? := fun g hx hl => (hg.block g (by omega) fun e => h6 g e.symm hx).trans (hb.block g hl)
  have hs2 : w.heap.size ≤ w2.heap.size := by have := hg.size; omega
  refine ⟨M, I, N, K, h1.same (fun g hx => same g (by rcases hx with h | h <;> simp [h]) (h1.mem g hx)) hs2, h2.same (fun g hx => same g (by rcases hx with h | h <;> simp [h]) (h2.mem g hx)) hs2, ?_, h4, h5, fun g he hx => ?_, h7, ?_⟩
  · rw [List.length_append]
    show w2.ownsRow _ 9 1 v' (xs.length + 1) (List.map _ (xs ++ [x]))
    rw [List.map_append]
    exact ho
  · rcases hv with hv | hv
    · exact h6 g (hv ▸ he) hx
    · rw [hv] at he
      cases he
      have : w1.heap.size < w.heap.size := by
        rcases hx with h | h | h | h
        · exact h1.mem _ (.inl h)
        · exact h1.mem _ (.inr h)
        · exact h2.mem _ (.inl h)
        · exact h2.mem _ (.inr h)
      omega
  · exact (Below.next h8 hb).grown hg (by omega) fun g e => (h3.lt g e).1
end

/-- Two new files. -/
theorem mate_new {w0 w : World} {p : Nat} {D : List UInt8} (h : NewF w0 w p D []) (s : ByteArray) (hs : s.size ≤ 100000) :
    Calls Try.prog 7 #[.string s] w fun e w' => ∃ q, e = .returned (.pointer (some ⟨q, 0, none⟩)) ∧ Mate w0 w' p D [] q s.data.toList [] (.slice none 0 0) [] := by
  obtain ⟨M, I, h1, h2, h3, h4⟩ := h
  refine (new_any s w hs).mono ?_
  rintro e w' ⟨q, N, rfl, k1, k2, k3⟩
  have hz := h4.size
  refine ⟨q, rfl, M, I, N, _, h1.below k3, k1, World.ownsRow_nil _ _ 9 1, fun g hg hm => ?_, fun g hg hn => ?_, (fun g hg => by cases hg), ?_, Below.next h4 k3⟩
  · rcases hg with hg | hg
    · have := k2 g hg; have := h1.mem g (.inl hm); omega
    · exact hg
  · have := k2 g hn; have := h1.mem g hg; omega
  · rintro g (hg | hg | hg | hg)
    · exact h2 g hg
    · exact h3 g hg
    · have := k2 g hg; omega
    · exact hg.elim

/-- A text appended to a row of the call's own: what a walk goes on with. -/
theorem wpList_append_str1 {w : World} {ops : Array Oper} {rest : List Oper} {o : Oper} {a : Act} {Q : Exit → Act → World → Prop} (hgd : o.guard = none) (s x : Operand)
    (hop : o.op = Op.call { callee := Callee.builtin Builtin.append, args := #[s, x], argTypes := #[41, 41] }) (ht : o.type = 41) (base : Nat) (v : Value) (n : Nat) (fs : List Value) (g : Nat) (f : ByteArray)
    (hs : a.eval s = v) (hx : a.eval x = .slice (some ⟨g, 0, none⟩) 1 1) (hc : w.cell? ⟨g, 0, none⟩ = some (.string f)) (hv : w.ownsRow base 9 1 v n fs) (hb : base ≤ w.heap.size) (hlen : n ≤ 1000000)
    (h : ∀ v' w', w'.ownsRow base 9 1 v' (n + 1) (fs ++ [.string f]) → w.grownBy w' v.ownBlock → (v'.ownBlock = v.ownBlock ∨ v'.ownBlock = some w.heap.size) → wpList Try.prog ops Q rest (a.put o.dst v') w') : wpList Try.prog ops Q (o :: rest) a w := by
  obtain ⟨i0, hi, hz0, hz1, hz2⟩ := info_parts i9
  obtain ⟨v', w1, h1, h2, h3, _, h5⟩ := run_append_own_at (P := Try.prog) w base 41 41 9 i0 (.string ⟨#[]⟩) 1 16 Try.underlying41 hi hz0 hz1 hz2 rfl (by decide) v n fs hv ⟨g, 0, none⟩ 1 1 [.string f] rfl
    (fun j u hj => by
      have : j = 0 := by have := (List.getElem?_eq_some_iff.1 hj).1; simpa using this
      subst this
      cases hj
      exact hc) (by intro u hu; simp at hu; subst hu; rfl) (by unfold maxLen; omega) (by omega) hb
  refine wpList_plain hgd fun _ hK => ?_
  unfold Oper.wp execOp
  simp only [hop, ht, resolve, invoke, builtin, Sem.run_bind, Sem.run_pure, Result.andThen_ok, List.map_toArray, List.map_cons, List.map_nil, hs, hx, h1]
  exact hK _ _ (h v' w1 h2 h3 h5)

theorem owns_slice9 {w : World} {base n : Nat} {v : Value} {xs : List Value} (h : w.ownsRow base 9 1 v n xs) : ∃ ad c, v = .slice ad n c := by
  rcases h.2 with ⟨rfl, h0⟩ | ⟨g, cap, cur, rfl, _⟩
  · exact ⟨none, 0, by rw [h0]⟩
  · exact ⟨_, cap, rfl⟩
theorem Mate.shape {w0 w : World} {p q : Nat} {D E : List UInt8} {A B : List Do} {v : Value} {xs : List ByteArray} (h : Mate w0 w p D A q E B v xs) : (∃ ad c, v = .slice ad xs.length c) ∧ w.ownsRow w0.heap.size 9 1 v xs.length (strs xs) := by
  obtain ⟨_, _, _, _, _, _, h3, _⟩ := h
  exact ⟨owns_slice9 h3, h3⟩
end Go.Proofs.Ytloijbhilfbliaa

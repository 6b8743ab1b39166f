/-
  A disk of its own, alike: the call.
-/
import Derived.Test.YtmmoilmfpiclgaaGreatT30
import Derived.Test.YtmmoilmfpiclgaaGreatT26
import Derived.Test.YtmmoilmfpiclgaaGreatT31
import Derived.Deep.CutRange
import Derived.Deep.RegionHeld3
import Derived.Maps.RangeWalk
set_option linter.unusedVariables false
set_option linter.unusedSimpArgs false
namespace Go.Proofs.YtmmoilmfpiclgaaGreat
open Go.RowKit Go.Shelf
open Fld (FS Names FAct actsOn foundN foundB findT withT withoutT GoodN Rising mayB nam nameMax FolderS FolderIn ARow textsOf capOf)

/-- A struct's cells are stored in a block's first ones. -/
theorem wpList_store_cells {w : World} {ops : Array Oper} {rest : List Oper} {o : Oper} {a : Act} {Q : Exit → Act → World → Prop} (hgd : o.guard = none) (ty : TypeId) (x y : Operand) (ho : o.op = .store ty x y)
    (g : Nat) (hx : a.eval x = .pointer (some ⟨g, 0, none⟩)) (t : TypeId) (cells cur : Array Value) (hy : a.eval y = .agg cells) (hg : w.heap[g]? = some (.cells cur t (0, 0))) (hi : (Tryz.prog.info? ty).map (·.size) = some cells.size) (hle : cells.size ≤ cur.size) (h1 : ∀ v ∈ cells.toList, v.oneCell' = true)
    (h : ∀ w', w.grownBy w' (some g) → w'.heap[g]? = some (.cells (cells.toList ++ cur.toList.drop cells.size).toArray t (0, 0)) → w'.heap.size = w.heap.size → wpList Tryz.prog ops Q rest (a.put o.dst undef) w') : wpList Tryz.prog ops Q (o :: rest) a w := by
  refine wpList_plain hgd fun K' hK' => ?_
  have hz : (sizeOf ty).run Tryz.prog w = .ok cells.size w := by
    cases hq : Tryz.prog.info? ty with
    | none => simp [hq] at hi
    | some i =>
      have hs : i.size = cells.size := by simpa [hq] using hi
      simp [sizeOf, typeInfo, hq, hs, Sem.run_bind]
  have hs := run_storeCells_at (P := Tryz.prog) g 0 t cells.toList 0 cur w hg (by simpa using hle) h1
  have hrun : (storeVar ty ⟨g, 0, none⟩ (.agg cells)).run Tryz.prog w = .ok () (w.setRow g (cells.toList ++ cur.toList.drop cells.size).toArray) := by
    unfold storeVar
    simp only [Sem.run_bind, hz, Result.andThen_ok]
    rw [if_neg (by simp [Value.cells])]
    simpa [Value.cells] using hs
  unfold Oper.wp
  simp [execOp, ho, hx, hy, Instr.storeAt, Instr.sureAddr, hrun, Result.andThen]
  exact hK' _ _ (h _ ⟨rfl, rfl, rfl, by simp, fun i _ hn => setRow_other w g i _ (fun e => hn (congrArg some e))⟩ (setRow_heap w g cur _ t _ hg) (by simp))

/-- What a copy leaves. -/
def Copied (w : World) (S : DS) (v : DV) (e : Ending) (w' : World) : Prop :=
  ∃ q u, e = .returned (.pointer (some ⟨q, 0, none⟩)) ∧ DiskP w' q S u ∧ (∀ g, All u.M g → w.heap.size ≤ g) ∧ (∀ g, All u.I g → All v.I g ∨ (v.av.ownBlock = some g ∧ u.av.ownBlock = some g)) ∧ (u.av = .slice none 0 0 ∨ u.av.ownBlock = v.av.ownBlock) ∧ capOf u.av = v.fs.length ∧ u.fs = v.fs ∧ Below w.heap.size w w'

/-- What there is where the files begin to be copied. -/
theorem copy_start {w w1 w2 w3 w4 : World} {p q q2 : Nat} {S : DS} {v : DV} {fv lv cv a0 a1 a2 a3 : Value} {lost : List Nat} {armed : Nat} {P : Nat → Option Nat} {Mc Ic : Nat → Prop} {m0 m2 : Option Nat} (h : DiskP w p S v) (_d1 : DiskIn w p S S.used v fv lv lost armed P)
    (hq : q = w.heap.size) (g1 : (w.alloc (.cells #[.map none, .slice none 0 0, .map none, .int .i64 0, .map none, .slice none 0 0, .int .i64 0, .int .i64 0, .int .i64 0, .int .i64 0, .bool false] 77)).grownBy w1 (some q))
    (h1 : w1.heap[q]? = some (.cells ⟨a0 :: a1 :: a2 :: a3 :: DTail fv lv S.room S.used S.steps armed S.down⟩ 77 (0, 0)))
    (f1 : @FolderS Fld.alone w2 q2 S.fold cv v.fs Mc Ic) (f2 : ∀ g, Mc g → w1.heap.size ≤ g) (f3 : ∀ g, Ic g → v.I 0 g ∨ cv.ownBlock = some g) (f4 : cv = .slice none 0 0 ∨ cv.ownBlock = v.av.ownBlock) (b2 : Below w1.heap.size w1 w2)
    (hm : ∀ (R : List Value) (W : World) (q : Nat), W.heap[q]? = some (.cells ⟨.map m0 :: cv :: .map m2 :: .int .i64 (S.fold.n : Int) :: R⟩ 77 (0, 0)) → (∀ g, Mc g ∨ Ic g → W.heap[g]? = w2.heap[g]?) → w2.heap.size ≤ W.heap.size → ¬ Ic q → @FolderS (fin R) W q S.fold cv v.fs (fun g => g = q ∨ Mc g) Ic)
    (g3 : w2.grownBy w3 (some q)) (h3 : w3.heap[q]? = some (.cells ⟨.map m0 :: cv :: .map m2 :: .int .i64 (S.fold.n : Int) :: DTail fv lv S.room S.used S.steps armed S.down⟩ 77 (0, 0))) (z3 : w3.heap.size = w2.heap.size)
    (h4 : w4 = (w3.setCell ⟨q, 4, none⟩ (.map (some w3.heap.size))).alloc (.map #[] 0)) : ∃ u, CopyIn w w4 q w3.heap.size S v u lv armed (fun _ => none) ∧ u.av = cv ∧ u.fs = v.fs ∧ ∀ k, ¬ u.M k w4.heap.size := by
  subst h4
  have bA : Below w.heap.size w (w.alloc (.cells #[.map none, .slice none 0 0, .map none, .int .i64 0, .map none, .slice none 0 0, .int .i64 0, .int .i64 0, .int .i64 0, .int .i64 0, .bool false] 77)) := (Below.refl _ w).alloc (Nat.le_refl _) _
  have bB : Below w.heap.size w w1 := bA.grown g1 bA.size fun r e => by cases e; omega
  have bC : Below w.heap.size w w2 := Below.next bB b2
  have bD : Below w.heap.size w w3 := bC.grown g3 bC.size fun r e => by cases e; omega
  have bE : Below w.heap.size w (w3.setCell ⟨q, 4, none⟩ (.map (some w3.heap.size))) := bD.grown (grown_setCell _ _ _ _) bD.size fun r e => by cases e; omega
  have bF : Below w.heap.size w ((w3.setCell ⟨q, 4, none⟩ (.map (some w3.heap.size))).alloc (.map #[] 0)) := bE.alloc bE.size _
  have zA : (w.alloc (.cells #[.map none, .slice none 0 0, .map none, .int .i64 0, .map none, .slice none 0 0, .int .i64 0, .int .i64 0, .int .i64 0, .int .i64 0, .bool false] 77)).heap.size = w.heap.size + 1 := by simp
  have z1 : w.heap.size < w1.heap.size := by have := g1.size; omega
  have z2 := b2.size
  have zE : (w3.setCell ⟨q, 4, none⟩ (.map (some w3.heap.size))).heap.size = w3.heap.size := by simp
  have q4 := (heap_alloc_old (w3.setCell ⟨q, 4, none⟩ (.map (some w3.heap.size))) (.map #[] 0) (by rw [zE]; omega)).trans (cells_setCell h3 4 (.map (some w3.heap.size)))
  have old : ∀ g, v.I 0 g ∨ v.av.ownBlock = some g → g < w.heap.size := fun g hg => by
    rcases hg with hg | hg
    · exact h.parts.mem 0 g (.inr hg)
    · exact h.rowLt hg
  have oldI : ∀ g, Ic g → v.I 0 g ∨ v.av.ownBlock = some g := fun g hg => by
    rcases f3 g hg with k | k
    · exact .inl k
    · rcases f4 with e | e
      · rw [e] at k; cases k
      · exact .inr (by rw [← e]; exact k)
  have memc := @FolderIn.mem Fld.alone _ _ _ _ _ _ _ _ _ f1
  have fold := hm ((DTail fv lv S.room S.used S.steps armed S.down).set 0 (.map (some w3.heap.size))) ((w3.setCell ⟨q, 4, none⟩ (.map (some w3.heap.size))).alloc (.map #[] 0)) q (by simpa using q4) (fun g hg => by
    have h5 := memc g hg
    have ne : g ≠ q := fun e => by
      subst e
      rcases hg with hg | hg
      · have := f2 g hg; omega
      · have := old g (oldI g hg); omega
    rw [heap_alloc_old _ _ (by rw [zE]; omega), Fld.heap_setCell_ne ne, g3.block g h5 (fun e => ne (Option.some.inj e))]) (by simp; omega) (fun hg => by have := old q (oldI q hg); omega)
  refine ⟨⟨cv, v.fs, fun k g => (k = 0 ∧ (g = q ∨ Mc g)) ∨ (k = 1 ∧ g = w3.heap.size), fun k g => (k = 0 ∧ Ic g) ∨ (3 ≤ k ∧ v.I k g)⟩, ⟨?_, ?_, .inr ⟨rfl, rfl⟩, (fun n b hn => by cases hn), ⟨?_, ?_, ?_⟩, ?_, ?_, fun n => ?_, ?_, bF⟩, rfl, rfl, ?_⟩
  · have eM : (fun g => ((0 = 0 ∧ (g = q ∨ Mc g)) ∨ (0 = 1 ∧ g = w3.heap.size))) = fun g => g = q ∨ Mc g := funext fun g => by simp
    have eI : (fun g => (0 = 0 ∧ Ic g) ∨ (3 ≤ 0 ∧ v.I 0 g)) = Ic := funext fun g => by simp
    show @FolderS (fin (DTail (.map (some w3.heap.size)) lv S.room S.used S.steps armed S.down)) _ _ _ _ _ (fun g => ((0 = 0 ∧ (g = q ∨ Mc g)) ∨ (0 = 1 ∧ g = w3.heap.size))) (fun g => (0 = 0 ∧ Ic g) ∨ (3 ≤ 0 ∧ v.I 0 g))
    rw [eM, eI]
    exact fold
  · have := hasP_made (w3.setCell ⟨q, 4, none⟩ (.map (some w3.heap.size)))
    rwa [zE] at this
  · rintro k g ((⟨-, rfl | hg⟩ | ⟨-, rfl⟩) | (⟨-, hg⟩ | ⟨-, hg⟩))
    · simp; omega
    · have := memc g (.inl hg); simp; omega
    · simp
    · have := memc g (.inr hg); simp; omega
    · have := h.parts.mem k g (.inr hg); simp; omega
  · rintro k l g hkl (⟨rfl, hg⟩ | ⟨rfl, rfl⟩) (⟨rfl, hg'⟩ | ⟨rfl, hg'⟩)
    · exact hkl rfl
    · rcases hg with rfl | hg
      · omega
      · have := memc g (.inl hg); omega
    · rcases hg' with e | hg'
      · omega
      · have := memc _ (.inl hg'); omega
    · exact hkl rfl
  · rintro k l g hI hM
    have hlt : g < w.heap.size := by
      rcases hI with ⟨-, hg⟩ | ⟨-, hg⟩
      · exact old g (oldI g hg)
      · exact h.parts.mem k g (.inr hg)
    rcases hM with ⟨-, rfl | hg⟩ | ⟨-, rfl⟩
    · omega
    · have := f2 g hg; omega
    · omega
  · rintro g ⟨k, ⟨-, rfl | hg⟩ | ⟨-, rfl⟩⟩
    · omega
    · have := f2 g hg; omega
    · omega
  · rintro g ⟨k, ⟨-, hg⟩ | ⟨-, hg⟩⟩
    · rcases f3 g hg with k | k
      · exact .inl ⟨0, k⟩
      · rcases f4 with e | e
        · rw [e] at k; cases k
        · exact .inr ⟨by rw [← e]; exact k, k⟩
    · exact .inl ⟨k, hg⟩
  · funext g
    show ((n + 3 = 0 ∧ Ic g) ∨ (3 ≤ n + 3 ∧ v.I (n + 3) g)) = v.I (n + 3) g
    simp
  · rintro g ⟨k, ⟨-, hg⟩ | ⟨-, hg⟩⟩
    · exact old g (oldI g hg)
    · exact h.parts.mem k g (.inr hg)
  · rintro k (⟨-, e | hg⟩ | ⟨-, e⟩)
    · simp at e; omega
    · have := memc _ (.inl hg); simp at this; omega
    · simp at e

/-- A range over the files' map under way. -/
structure FilesR (w : World) (m r N : Nat) (P : Nat → Option Nat) (D : DataW Unit) (left : Lit → Bool) (cnt : Nat) : Prop where
  it : w.ranges Tryz.prog 3 ptrElem m r N D left cnt
  sub : ∀ kl, left kl = true → Maps.has D kl = true
  has : ∀ x : Nat, Maps.has D (.int .i64 (x : Int)) = (P x).isSome
  at' : ∀ (x b : Nat), P x = some b → ∀ z, D.atKey (.int .i64 (x : Int)) z = .lit (.int .i64 (b : Int))
  keys : ∀ kl, Maps.has D kl = true → ∃ x : Nat, kl = .int .i64 (x : Int)
theorem FilesR.kept {w w' : World} {m r N cnt : Nat} {P : Nat → Option Nat} {D : DataW Unit} {left : Lit → Bool} (h : FilesR w m r N P D left cnt) (hm : w'.heap[m]? = w.heap[m]?) (hr : w'.heap[r]? = w.heap[r]?) : FilesR w' m r N P D left cnt := by
  obtain ⟨es, clock, since, seen, c0, hb, F, hs, hD, hr', rest⟩ := h.it
  exact { h with it := ⟨es, clock, since, seen, c0, hm.trans hb, F, hs, hD, hr.trans hr', rest⟩ }

theorem wpList_range_files {w : World} {ops : Array Oper} {rest : List Oper} {o : Oper} {a : Act} {Q : Exit → Act → World → Prop} (hg : o.guard = none) (x : Operand) (hop : o.op = Op.range 74 x) (m : Nat) (P : Nat → Option Nat) (hm : a.eval x = .map (some m)) (h : HasP w m P)
    (hK : ∀ w' N D cnt, FilesR w' m w.heap.size N P D (Maps.has D) cnt → w.grownBy w' none → w'.heap.size = w.heap.size + 1 → wpList Tryz.prog ops Q rest (a.put o.dst (.pointer (some ⟨w.heap.size, 0, none⟩))) w') :
    wpList Tryz.prog ops Q (o :: rest) a w := by
  obtain ⟨D, h1, h2, h3, h4⟩ := h
  exact wpList_range_own w hg x _ hop _ _ keyI Tryz.underlying74 _ m _ D hm h1 fun w' r1 r2 r3 => hK w' _ D _ ⟨r1, fun _ h => h, h2, h3, h4⟩ r2 r3
set_option maxRecDepth 100000 in
theorem wpList_next_files {w : World} {ops : Array Oper} {rest : List Oper} {o : Oper} {a : Act} {Q : Exit → Act → World → Prop} (hg : o.guard = none) (it : Operand) (hop : o.op = Op.next it false) (m r N : Nat) (P : Nat → Option Nat) (D : DataW Unit) (left : Lit → Bool) (cnt : Nat) (hit : a.eval it = .pointer (some ⟨r, 0, none⟩))
    (h : FilesR w m r N P D left cnt) (hDone : (∀ kl, left kl = false) → wpList Tryz.prog ops Q rest (a.put o.dst (.tuple #[.bool false])) w)
    (hMore : ∀ (n b : Nat) (w' : World) (cnt' : Nat), P n = some b → left (.int .i64 (n : Int)) = true → FilesR w' m r N P D (fun z => left z && !z.sameKey (.int .i64 (n : Int))) cnt' → cnt' < cnt → w.grownBy w' (some r) → w'.heap.size = w.heap.size →
      (Instr.entry (.pointer (some ⟨r, 0, none⟩))).run Tryz.prog w' = .ok (.tuple #[.int .i64 (n : Int), .pointer (some ⟨b, 0, none⟩)]) w' → wpList Tryz.prog ops Q rest (a.put o.dst (.tuple #[.bool true, .int .i64 (n : Int), .pointer (some ⟨b, 0, none⟩)])) w') :
    wpList Tryz.prog ops Q (o :: rest) a w := by
  refine wpList_next_ranges (α := Int) (β := Option Nat) w hg it hop _ keyI ptrElem (Value.int .i64) (fun c => match c with | none => .pointer none | some b => .pointer (some ⟨b, 0, none⟩)) (fun key kl hkey => ?_) (fun v y hv => ?_) m r N D left cnt hit h.it (fun _ hl => hDone hl) fun x c kl y w' cnt' hkey hlk hv hat hrg hlt hgr hsz hen => ?_
  · obtain ⟨x, rfl, _⟩ := Maps.keyOf_int_inv Tryz.underlying3 hkey
    exact ⟨x, rfl⟩
  · rcases ptrElem_inv hv with ⟨rfl, _⟩ | ⟨b, rfl, _⟩
    · exact ⟨none, rfl⟩
    · exact ⟨some b, rfl⟩
  · obtain ⟨x', ex, rfl, _⟩ := Maps.keyOf_int_inv Tryz.underlying3 hkey
    cases ex
    obtain ⟨n, hn⟩ := h.keys _ (h.sub _ hlk)
    have hx : x = (n : Int) := by injection hn
    subst hx
    have hP : (P n).isSome = true := by rw [← h.has]; exact h.sub _ hlk
    obtain ⟨b, hb⟩ := Option.isSome_iff_exists.1 hP
    have e1 := h.at' n b hb .nil
    rw [hat] at e1
    have hc : c = some b := by
      cases c with
      | none =>
        rcases ptrElem_inv hv with ⟨_, rfl⟩ | ⟨b', h1, _⟩
        · cases e1
        · cases h1
      | some b' =>
        rcases ptrElem_inv hv with ⟨h1, _⟩ | ⟨b2, h1, rfl⟩
        · cases h1
        · have e2 : b2 = b' := by injection h1 with h1; injection h1 with h1; injection h1 with h1; exact h1.symm
          have e3 : b2 = b := by injection e1 with e1; injection e1 with _ e1; exact Int.ofNat.inj e1
          rw [← e3, e2]
    subst hc
    exact hMore n b w' cnt' hb hlk ⟨hrg, fun kl' hk => h.sub kl' (by simp only [Bool.and_eq_true] at hk; exact hk.1), h.has, h.at', h.keys⟩ hlt hgr hsz hen

theorem CopyIn.cell5 {w0 w w1 : World} {q mc armed : Nat} {S : DS} {v u : DV} {lv : Value} {Pc : Nat → Option Nat} (h : CopyIn w0 w q mc S v u lv armed Pc) (hb : Below w.heap.size w w1) : w1.cell? ⟨q, 5, none⟩ = some lv ∧ w1.frozen? ⟨q, 5, none⟩ = false ∧ q < w1.heap.size := by
  obtain ⟨a, b, c, d, h1, _⟩ := four_of h.fold
  have h2 := (hb.block q (Array.getElem?_eq_some_iff.1 h1).1).trans h1
  exact ⟨by rw [cell_of_row _ _ _ _ _ _ h2]; rfl, free_of h2 5, (Array.getElem?_eq_some_iff.1 h2).1⟩
theorem CopyIn.cell4 {w0 w w1 : World} {q mc armed : Nat} {S : DS} {v u : DV} {lv : Value} {Pc : Nat → Option Nat} (h : CopyIn w0 w q mc S v u lv armed Pc) (hb : Below w.heap.size w w1) : w1.cell? ⟨q, 4, none⟩ = some (.map (some mc)) := by
  obtain ⟨a, b, c, d, h1, _⟩ := four_of h.fold
  have h2 := (hb.block q (Array.getElem?_eq_some_iff.1 h1).1).trans h1
  rw [cell_of_row _ _ _ _ _ _ h2]; rfl
/-- The row of what lost its name, copied. -/
theorem clone_lost {w W : World} {lv : Value} {lost : List Nat} (h : w.ownsRow 0 3 1 lv lost.length (lost.map fun x : Nat => Value.int .i64 (x : Int))) (hb : Below w.heap.size w W) (hl : lost.length ≤ 1000000) :
    Calls Tryz.prog 47 #[lv] W fun e w' => ∃ ad c, e = .returned (.slice ad lost.length c) ∧ w'.ownsRow W.heap.size 3 1 (.slice ad lost.length c) lost.length (lost.map fun x : Nat => Value.int .i64 (x : Int)) ∧ Below W.heap.size W w' := by
  rcases h.2 with ⟨rfl, h0⟩ | ⟨g, cap, cur, rfl, hbg, hg, h4, h5, h6, ht⟩
  · have hn : lost = [] := List.length_eq_zero_iff.1 h0
    subst hn
    refine (Tryz.slices_Clone_int_nil 0 0 W).mono ?_
    rintro e w' ⟨rfl, rfl⟩
    exact ⟨_, _, rfl, World.ownsRow_nil _ _ _ _, Below.refl _ _⟩
  · refine (Tryz.slices_Clone_int g 0 lost.length cap (lost.map fun x : Nat => (x : Int)) W (by simp) (by omega) fun j hj => ?_).mono ?_
    · have hg' := (hb.block g (Array.getElem?_eq_some_iff.1 hg).1).trans hg
      simp only [List.length_map] at hj
      rw [Nat.zero_add, cell_of_row W g j cur 3 (0, 0) hg', ← Array.getElem?_toList]
      have hx : (lost.map fun x : Nat => Value.int .i64 (x : Int))[j]? = some (.int .i64 ((lost.map fun x : Nat => (x : Int)).getD j 0)) := by simp [List.getD, hj]
      rw [← ht, List.getElem?_take] at hx
      split at hx
      · exact hx
      · cases hx
    · rintro e w' ⟨v', rfl, q1, _, q3⟩
      have q1' : w'.ownsRow W.heap.size 3 1 v' lost.length (lost.map fun x : Nat => Value.int .i64 (x : Int)) := by
        rw [show (lost.map fun x : Nat => (x : Int)).take lost.length = lost.map fun x : Nat => (x : Int) from List.take_of_length_le (by simp)] at q1
        simpa [List.map_map, Function.comp_def] using q1
      obtain ⟨ad, c, rfl⟩ := ownsSlice q1'
      exact ⟨ad, c, rfl, q1', q3⟩

theorem disk_block {w : World} {p u : Nat} {S : DS} {v : DV} {fv lv : Value} {lost : List Nat} {armed : Nat} {P : Nat → Option Nat} (h : DiskIn w p S u v fv lv lost armed P) :
    ∃ x0 y0 y1 y2 x2, w.heap[p]? = some (.cells ⟨.map x0 :: .slice y0 y1 y2 :: .map x2 :: .int .i64 (S.fold.n : Int) :: DTail fv lv S.room u S.steps armed S.down⟩ 77 (0, 0)) := by
  obtain ⟨lv0, tv0, h1, h2, h3, _⟩ := @FolderIn.it (fin _) _ _ _ _ _ _ _ _ _ h.fold
  obtain ⟨y0, y2, hy, _⟩ := (@FolderIn.row (fin _) _ _ _ _ _ _ _ _ _ h.fold).shape
  obtain ⟨x0, rfl⟩ := h2.shape
  obtain ⟨x2, rfl⟩ := h3.shape
  rw [hy] at h1
  exact ⟨x0, y0, _, y2, x2, h1⟩

set_option maxHeartbeats 8000000 in
set_option maxRecDepth 100000 in
theorem copy_some {w : World} {p m : Nat} {S : DS} {v : DV} {lv : Value} {lost : List Nat} {armed : Nat} {P : Nat → Option Nat} (h : DiskP w p S v) (d1 : DiskIn w p S S.used v (.map (some m)) lv lost armed P) (hkn : KnownIn S.fold lost P) (hl : S.fold.weight ≤ 80000) (ha : ∀ n, (S.file n).A.length ≤ 1000) :
    Calls Tryz.prog 11 #[.pointer (some ⟨p, 0, none⟩)] w fun e w' => Copied w S v e w' := by
  obtain ⟨x0, y0, y1, y2, x2, hblk⟩ := disk_block d1
  have HP : Hid (∀ W, Below w.heap.size w W → W.cell? ⟨p, 4, none⟩ = some (.map (some m)) ∧ W.cell? ⟨p, 5, none⟩ = some lv) := Lib.hid fun W hW => by
    obtain ⟨k4, k5, _⟩ := d1.cells
    exact ⟨(hW.cell (p := ⟨p, 4, none⟩) d1.p_mem.2).trans k4, (hW.cell (p := ⟨p, 5, none⟩) d1.p_mem.2).trans k5⟩
  have QF := Lib.hid (fun W (hW : Below w.heap.size w W) => @Fld.copy_any (fin _) _ _ _ _ _ _ _ (@FolderIn.below (fin _) _ _ _ _ _ _ _ _ _ _ d1.fold hW) (by omega : S.fold.weight ≤ 90000))
  have HS := Lib.hid (fun w1 w2 w3 w4 q q2 cv Mc Ic m0 m2 => @copy_start w w1 w2 w3 w4 p q q2 S v (.map (some m)) lv cv (.map x0) (.slice y0 y1 y2) (.map x2) (.int .i64 (S.fold.n : Int)) lost armed P Mc Ic m0 m2 h d1)
  have HM := Lib.hid (fun W (hW : Below w.heap.size w W) => (show HasP W m P by
    rcases d1.map with ⟨e, _⟩ | ⟨m', e, hm⟩
    · cases e
    · cases e; exact hm.same (hW.block m hm.lt)))
  obtain ⟨ad, cl, rfl⟩ := ownsSlice d1.row
  unfold DTail at hblk
  have HD := Lib.hid d1
  have HK := Lib.hid hkn
  have HH := Lib.hid h
  have HA := Lib.hid ha
  have hmm := @run_makeMap Tryz.prog
  have hsm := store_map
  have BA := Lib.hid (fun w1 (g1 : (w.alloc (.cells #[.map none, .slice none 0 0, .map none, .int .i64 0, .map none, .slice none 0 0, .int .i64 0, .int .i64 0, .int .i64 0, .int .i64 0, .bool false] 77)).grownBy w1 (some w.heap.size)) => ((Below.refl _ w).alloc (Nat.le_refl _) _ : Below w.heap.size w (w.alloc (.cells #[.map none, .slice none 0 0, .map none, .int .i64 0, .map none, .slice none 0 0, .int .i64 0, .int .i64 0, .int .i64 0, .int .i64 0, .bool false] 77))).grown g1 (by simp) (fun r e => by cases e; exact Nat.le_refl _))
  have HW := Lib.hid hl
  clear d1 hkn h ha hl
  go_enter Tryz.func11, Tryz.ntmps11
  go_wp2_with (first
    | (refine wpList_load_row rfl 77 _ rfl p rfl 77 _ (0, 0) _ hblk Tryz.underlying77 rfl (by kernel_rfl) ?_)
    | (refine wpList_store_cells rfl 77 _ _ rfl w.heap.size rfl 77 _ _ rfl (heap_alloc_new w _) (by kernel_rfl) (by simp) (by simp [Value.oneCell']; done) ?_; intro w1 g1 h1 z1; have B1 := Lib.hid (BA.out _ g1); have G1 := Lib.hid g1; have H1 := Lib.hid h1; clear g1 h1)
    | (go_at_call 45; (with_reducible refine (QF.out _ B1.out).mono ?_); rintro e w2 ⟨q2, cv, Mc, Ic, rfl, f1, f2, f3, f4, f5, b2⟩; obtain ⟨m0, m2, hq2, hm⟩ := folder_moved f1; obtain ⟨z0, z2, hcv, _⟩ := (@FolderIn.row Fld.alone _ _ _ _ _ _ _ _ _ f1).shape; have f2' := Lib.hid (And.intro f2 (And.intro f3 (And.intro f4 f5))); have hm' := Lib.hid hm; have f1' := Lib.hid f1; have b2' := Lib.hid b2; have HQ := Lib.hid ((b2.block w.heap.size (by rw [z1]; simp)).trans H1.out); clear f1 f2 f3 f4 f5 hm b2; subst hcv)
    | (refine wpList_load_row rfl 71 _ rfl q2 rfl 71 _ (0, 0) _ hq2 Tryz.underlying71 rfl (by kernel_rfl) ?_)
    | (refine wpList_store_cells rfl 71 _ _ rfl w.heap.size rfl 77 _ _ rfl HQ.out (by kernel_rfl) (by simp) (by simp [Value.oneCell']; done) ?_; intro w3 g3 h3 z3; simp only [List.cons_append, List.nil_append, List.size_toArray, List.length_cons, List.length_nil, Nat.zero_add, Nat.reduceAdd, List.drop_succ_cons, List.drop_zero, List.drop_nil, List.append_nil] at h3; have k4 : w3.cell? ⟨w.heap.size, 4, none⟩ = some (.map (some m)) := (by rw [cell_of_row _ _ _ _ _ _ h3]; rfl); have fz4 : w3.frozen? ⟨w.heap.size, 4, none⟩ = false := free_of h3 4; have hlt3 : w.heap.size < w3.heap.size := (Array.getElem?_eq_some_iff.1 h3).1; have BZ := (Below.next B1.out b2'.out).grown g3 (Below.next B1.out b2'.out).size (fun r e => by cases e; exact Nat.le_refl _); have BF := (BZ.grown (grown_setCell w3 w.heap.size 4 (.map (some w3.heap.size))) BZ.size (fun r e => by cases e; exact Nat.le_refl _)).alloc (by simp; exact BZ.size) (.map #[] 0); obtain ⟨W4, hW4⟩ : ∃ W, (w3.setCell ⟨w.heap.size, 4, none⟩ (.map (some w3.heap.size))).alloc (.map #[] 0) = W := ⟨_, rfl⟩; rw [hW4] at BF; have CI := Lib.hid (HS.out _ _ _ _ _ _ _ _ _ _ _ rfl G1.out H1.out f1'.out f2'.out.1 f2'.out.2.1 f2'.out.2.2.1 b2'.out hm'.out g3 h3 z3 hW4.symm); have kp4 : ((w3.setCell ⟨w.heap.size, 4, none⟩ (.map (some w3.heap.size))).alloc (.map #[] 0)).cell? ⟨p, 4, none⟩ = some (.map (some m)) := (by rw [hW4]; exact (HP.out _ BF).1); have kp4' := (HP.out _ BF).1; have BF4 := Lib.hid BF; clear g3 h3 z3 hq2 BF BZ)
    | (at_range; (try rw [hW4]); refine wpList_range_files rfl _ rfl m P rfl (HM.out _ BF4.out) ?_; intro w5 N D cnt0 r5 g5 z5)
    | fail)
  go_frame
  obtain ⟨u0, ci0, cu1, cu2, cu3⟩ := CI.out
  have zr : w.heap.size ≤ W4.heap.size := BF4.out.size
  go_loopw [4, 5] (fun _ _ wr => ∃ (left : Lit → Bool) (cnt : Nat) (u : DV) (Pc : Nat → Option Nat), FilesR wr m W4.heap.size N P D left cnt ∧ CopyIn w wr w.heap.size w3.heap.size S v u (.slice ad lost.length cl) armed Pc ∧ (u.av = .slice z0 v.fs.length z2 ∧ u.fs = v.fs ∧ ∀ k, ¬ u.M k W4.heap.size) ∧ (∀ n c, Pc n = some c → ∃ b, P n = some b) ∧ ∀ n b, P n = some b → (∃ c, Pc n = some c) ∨ left (.int .i64 (n : Int)) = true)
    (fun _ _ wr => wr.rangeLeft m W4.heap.size)
  case atStart =>
    refine ⟨_, _, u0, fun _ => none, r5, ci0.turned g5 (fun r e => by cases e), ⟨cu1, cu2, cu3⟩, (fun n c h => by cases h), fun n b hb => .inr ?_⟩
    rw [r5.has, hb]; rfl
  case round =>
    obtain ⟨left, cnt, u, Pc, hrg, hci, hu, hsub, hall⟩ := hrel
    have HCI := Lib.hid hci
    have HALL := Lib.hid hall
    have HU := Lib.hid hu
    have HSUB := Lib.hid hsub
    have HRG := Lib.hid hrg
    have kp5 := (HP.out _ hci.below).2
    clear hci hall hu hsub hrg
    go_wp2_with (first
      | (at_next; refine wpList_next_files rfl _ rfl m W4.heap.size N P D left cnt rfl HRG.out ?_ ?_)
      | fail)
    · intro hl0
      have QL := Lib.hid (clone_lost (HD.out.row) HCI.out.below (by have := HK.out.2.2; have h4 : S.fold.A.length ≤ S.fold.weight := (by unfold Fld.FS.weight; omega); have := HW.out; omega))
      go_wp2_with (first
        | (go_at_call 47; (with_reducible refine QL.out.mono ?_); rintro e w6 ⟨ad6, c6, rfl, r6, b6⟩; obtain ⟨k5, f5, hlt5⟩ := (HCI.out.cell5 b6))
        | fail)
      go_ret
      obtain ⟨u', y1, y2, y3, y4, y5, y6⟩ := HCI.out.done HD.out HK.out HH.out.good HH.out.room (fun n b hb => (HALL.out n b hb).elim id fun h => by rw [hl0] at h; cases h) HSUB.out b6 r6
      exact ⟨_, u', rfl, y1, y2, y3, by rw [y4, HU.out.1]; exact f2'.out.2.2.1, by rw [y4, HU.out.1]; exact f2'.out.2.2.2, y5.trans HU.out.2.1, y6⟩
    · intro n b w1 cnt1 hPn hln hrg1 hlt hg1 hs1 hen
      go_upto_region 9 with fail
      have hci1 := HCI.out.turned hg1 (fun r e => by cases e; exact ⟨zr, HU.out.2.2⟩)
      have fb := (HD.out.files n b hPn).1
      have QC := Lib.hid (fun W (hW : Below w1.heap.size w1 W) => copy_any (fb.below (Below.next hci1.below hW)) (HA.out n))
      have HCI1 := Lib.hid hci1
      have K4 := Lib.hid (fun W (hW : Below w1.heap.size w1 W) => (HCI1.out.cell4 hW))
      have k4a := K4.out w1 (Below.refl _ _)
      have HRG1 := Lib.hid hrg1
      clear hci1 fb hrg1 hg1 hen
      have hN : ∀ x c, Pc x = some c → x < 100001 := fun x c hx => by
        obtain ⟨b2, hb2⟩ := HSUB.out x c hx
        have := (HD.out.files x b2 hb2).2.2
        have h4 : S.fold.n ≤ S.fold.weight := Nat.le_add_left _ _
        have := HW.out
        omega
      have hn5 : n ≤ 1000000000 := by
        have := (HD.out.files n b hPn).2.2
        have h4 : S.fold.n ≤ S.fold.weight := Nat.le_add_left _ _
        have := HW.out
        omega
      have HPUT := Lib.hid (fun W (hW : Below w1.heap.size w1 W) b' => (HCI1.out.map.same (hW.block _ HCI1.out.map.lt)).put hN (by omega) n b' hn5)
      clear hN hn5
      go_region_with ((go_at_call 46; (with_reducible refine Calls.mono (QC.out _ (by repeat (first | with_reducible exact Below.refl _ _ | (with_reducible apply below_drew'')))) ?_); rintro e w2 ⟨b', M', rfl, c1, c2, c3⟩; go_loud (have b12 : Below w1.heap.size w1 w2 := Below.next (by repeat (first | with_reducible exact Below.refl _ _ | (with_reducible apply below_drew''))) c3; have k4b := K4.out w2 b12; obtain ⟨w7, e7, h7, g7⟩ := HPUT.out w2 b12 b')))
      all_goals
        have hmw : m < w.heap.size := by
          rcases HD.out.map with ⟨e, _⟩ | ⟨m', e, hm⟩
          · cases e
          · cases e; exact hm.lt
        have hmc := HCI1.out.mapM
        have hmc0 := HCI1.out.fresh _ ⟨1, hmc⟩
        have hrlt := HRG1.out.it.lt
        have hrne : W4.heap.size ≠ w3.heap.size := fun e => HU.out.2.2 1 (by rw [e]; exact hmc)
        have hw1 := HCI1.out.below.size
        have hrg7 : FilesR w7 m W4.heap.size N P D (fun z => left z && !z.sameKey (.int .i64 (n : Int))) cnt1 := HRG1.out.kept ((g7.block m (by have := b12.size; omega) (fun e => by have := Option.some.inj e; omega)).trans (b12.block m (by omega))) ((g7.block _ (by have := b12.size; omega) (fun e => hrne (Option.some.inj e))).trans (b12.block _ hrlt))
        go_wp2
        refine ⟨⟨_, cnt1, _, _, hrg7, HCI1.out.add b12 c1 c2 g7 h7, ⟨HU.out.1, HU.out.2.1, fun k hk => ?_⟩, fun x c hx => ?_, fun x bx hx => ?_⟩, ?_⟩
        · by_cases e : k = n + 3
          · subst e
            simp only [pput_same] at hk
            have := c2 _ hk
            have e2 : w1.drew.heap.size = w1.heap.size := rfl
            omega
          · simp only [pput_other _ _ e] at hk
            exact HU.out.2.2 k hk
        · by_cases e : x = n
          · subst e; exact ⟨_, hPn⟩
          · rw [pset_other _ _ e] at hx
            exact HSUB.out x c hx
        · by_cases e : x = n
          · subst e; exact .inl ⟨_, pset_same _ _ _⟩
          · rcases HALL.out x bx hx with ⟨c, hc⟩ | hl
            · exact .inl ⟨c, by rw [pset_other _ _ e]; exact hc⟩
            · refine .inr ?_
              have : (Lit.int IntKind.i64 (x : Int)).sameKey (.int .i64 (n : Int)) = false := by
                simp [Lit.sameKey]; omega
              simp [hl, this]
        · rw [hrg7.it.left_eq, HRG.out.it.left_eq]; exact hlt

set_option maxHeartbeats 8000000 in
set_option maxRecDepth 100000 in
theorem copy_none {w : World} {p : Nat} {S : DS} {v : DV} {lv : Value} {lost : List Nat} {armed : Nat} {P : Nat → Option Nat} (h : DiskP w p S v) (d1 : DiskIn w p S S.used v (.map none) lv lost armed P) (hkn : KnownIn S.fold lost P) (hl : S.fold.weight ≤ 80000) :
    Calls Tryz.prog 11 #[.pointer (some ⟨p, 0, none⟩)] w fun e w' => Copied w S v e w' := by
  obtain ⟨x0, y0, y1, y2, x2, hblk⟩ := disk_block d1
  have HP : Hid (∀ W, Below w.heap.size w W → W.cell? ⟨p, 4, none⟩ = some (.map none) ∧ W.cell? ⟨p, 5, none⟩ = some lv) := Lib.hid fun W hW => by
    obtain ⟨k4, k5, _⟩ := d1.cells
    exact ⟨(hW.cell (p := ⟨p, 4, none⟩) d1.p_mem.2).trans k4, (hW.cell (p := ⟨p, 5, none⟩) d1.p_mem.2).trans k5⟩
  have QF := Lib.hid (fun W (hW : Below w.heap.size w W) => @Fld.copy_any (fin _) _ _ _ _ _ _ _ (@FolderIn.below (fin _) _ _ _ _ _ _ _ _ _ _ d1.fold hW) (by omega : S.fold.weight ≤ 90000))
  have HS := Lib.hid (fun w1 w2 w3 w4 q q2 cv Mc Ic m0 m2 => @copy_start w w1 w2 w3 w4 p q q2 S v (.map none) lv cv (.map x0) (.slice y0 y1 y2) (.map x2) (.int .i64 (S.fold.n : Int)) lost armed P Mc Ic m0 m2 h d1)
  have hP : P = fun _ => none := by
    rcases d1.map with ⟨_, e⟩ | ⟨m', e, _⟩
    · exact e
    · cases e
  obtain ⟨ad, cl, rfl⟩ := ownsSlice d1.row
  unfold DTail at hblk
  have HD := Lib.hid d1
  have HK := Lib.hid hkn
  have HH := Lib.hid h
  have hmm := @run_makeMap Tryz.prog
  have hsm := store_map
  have BA := Lib.hid (fun w1 (g1 : (w.alloc (.cells #[.map none, .slice none 0 0, .map none, .int .i64 0, .map none, .slice none 0 0, .int .i64 0, .int .i64 0, .int .i64 0, .int .i64 0, .bool false] 77)).grownBy w1 (some w.heap.size)) => ((Below.refl _ w).alloc (Nat.le_refl _) _ : Below w.heap.size w (w.alloc (.cells #[.map none, .slice none 0 0, .map none, .int .i64 0, .map none, .slice none 0 0, .int .i64 0, .int .i64 0, .int .i64 0, .int .i64 0, .bool false] 77))).grown g1 (by simp) (fun r e => by cases e; exact Nat.le_refl _))
  have HW := Lib.hid hl
  clear d1 hkn h hl
  go_enter Tryz.func11, Tryz.ntmps11
  go_wp2_with (first
    | (refine wpList_load_row rfl 77 _ rfl p rfl 77 _ (0, 0) _ hblk Tryz.underlying77 rfl (by kernel_rfl) ?_)
    | (refine wpList_store_cells rfl 77 _ _ rfl w.heap.size rfl 77 _ _ rfl (heap_alloc_new w _) (by kernel_rfl) (by simp) (by simp [Value.oneCell']; done) ?_; intro w1 g1 h1 z1; have B1 := Lib.hid (BA.out _ g1); have G1 := Lib.hid g1; have H1 := Lib.hid h1; clear g1 h1)
    | (go_at_call 45; (with_reducible refine (QF.out _ B1.out).mono ?_); rintro e w2 ⟨q2, cv, Mc, Ic, rfl, f1, f2, f3, f4, f5, b2⟩; obtain ⟨m0, m2, hq2, hm⟩ := folder_moved f1; obtain ⟨z0, z2, hcv, _⟩ := (@FolderIn.row Fld.alone _ _ _ _ _ _ _ _ _ f1).shape; have f2' := Lib.hid (And.intro f2 (And.intro f3 (And.intro f4 f5))); have hm' := Lib.hid hm; have f1' := Lib.hid f1; have b2' := Lib.hid b2; have HQ := Lib.hid ((b2.block w.heap.size (by rw [z1]; simp)).trans H1.out); clear f1 f2 f3 f4 f5 hm b2; subst hcv)
    | (refine wpList_load_row rfl 71 _ rfl q2 rfl 71 _ (0, 0) _ hq2 Tryz.underlying71 rfl (by kernel_rfl) ?_)
    | (refine wpList_store_cells rfl 71 _ _ rfl w.heap.size rfl 77 _ _ rfl HQ.out (by kernel_rfl) (by simp) (by simp [Value.oneCell']; done) ?_; intro w3 g3 h3 z3; simp only [List.cons_append, List.nil_append, List.size_toArray, List.length_cons, List.length_nil, Nat.zero_add, Nat.reduceAdd, List.drop_succ_cons, List.drop_zero, List.drop_nil, List.append_nil] at h3; have k4 : w3.cell? ⟨w.heap.size, 4, none⟩ = some (.map none) := (by rw [cell_of_row _ _ _ _ _ _ h3]; rfl); have fz4 : w3.frozen? ⟨w.heap.size, 4, none⟩ = false := free_of h3 4; have hlt3 : w.heap.size < w3.heap.size := (Array.getElem?_eq_some_iff.1 h3).1; have BZ := (Below.next B1.out b2'.out).grown g3 (Below.next B1.out b2'.out).size (fun r e => by cases e; exact Nat.le_refl _); have BF := (BZ.grown (grown_setCell w3 w.heap.size 4 (.map (some w3.heap.size))) BZ.size (fun r e => by cases e; exact Nat.le_refl _)).alloc (by simp; exact BZ.size) (.map #[] 0); obtain ⟨W4, hW4⟩ : ∃ W, (w3.setCell ⟨w.heap.size, 4, none⟩ (.map (some w3.heap.size))).alloc (.map #[] 0) = W := ⟨_, rfl⟩; rw [hW4] at BF; have CI := Lib.hid (HS.out _ _ _ _ _ _ _ _ _ _ _ rfl G1.out H1.out f1'.out f2'.out.1 f2'.out.2.1 f2'.out.2.2.1 b2'.out hm'.out g3 h3 z3 hW4.symm); have kp4 : ((w3.setCell ⟨w.heap.size, 4, none⟩ (.map (some w3.heap.size))).alloc (.map #[] 0)).cell? ⟨p, 4, none⟩ = some (.map none) := (by rw [hW4]; exact (HP.out _ BF).1); have kp4' := (HP.out _ BF).1; have BF4 := Lib.hid BF; obtain ⟨u0, ci0, cu1, cu2, cu3⟩ := CI.out; have BF5 : Below w.heap.size w (W4.alloc (.mapIter none 0 #[] 0)) := BF.alloc BF.size _; have kp5 := (HP.out _ BF5).2; have CI5 := ci0.turned (World.grownBy_alloc W4 (.mapIter none 0 #[] 0) none) (fun r e => by cases e); have QL := Lib.hid (clone_lost (HD.out.row) BF5 (by have := HK.out.2.2; have h4 : S.fold.A.length ≤ S.fold.weight := (by unfold Fld.FS.weight; omega); have := HW.out; omega)); have hrgN := run_range_nilMap (P := Tryz.prog) W4 74 _ _ Tryz.underlying74; have hnxN : ∀ ty, (Instr.next (.pointer (some ⟨W4.heap.size, 0, none⟩)) false ty).run Tryz.prog (W4.alloc (.mapIter none 0 #[] 0)) = _ := fun ty => run_next_nilMap W4 ty 0 0 #[]; clear g3 h3 z3 hq2 BF BZ)
    | (go_at_call 47; go_loud ((with_reducible refine QL.out.mono ?_); rintro e w6 ⟨ad6, c6, rfl, r6, b6⟩; obtain ⟨k5, f5, hlt5⟩ := (CI5.cell5 b6)))
    | fail)
  refine wp_loop_rounds 1 ?_
  rw [rounds_succ]
  go_wp2_with (go_at_call 47; go_loud ((with_reducible refine QL.out.mono ?_); rintro e w6 ⟨ad6, c6, rfl, r6, b6⟩; obtain ⟨k5, f5, hlt5⟩ := (CI5.cell5 b6)))
  go_ret
  subst hP
  obtain ⟨u', y1, y2, y3, y4, y5, y6⟩ := CI5.done HD.out HK.out HH.out.good HH.out.room (fun n b hb => by cases hb) (fun n c hc => by cases hc) b6 r6
  exact ⟨_, u', rfl, y1, y2, y3, by rw [y4, cu1]; exact f2'.out.2.2.1, by rw [y4, cu1]; exact f2'.out.2.2.2, y5.trans cu2, y6⟩

theorem disk_copy {w : World} {p : Nat} {S : DS} {v : DV} (h : DiskP w p S v) (hl : S.fold.weight ≤ 80000) (ha : ∀ n, (S.file n).A.length ≤ 1000) :
    Calls Tryz.prog 11 #[.pointer (some ⟨p, 0, none⟩)] w fun e w' => Copied w S v e w' := by
  obtain ⟨fv, lv, lost, armed, P, h1, hkn⟩ := h.it
  rcases h1.map with ⟨rfl, _⟩ | ⟨m, rfl, _⟩
  · exact copy_none h h1 hkn hl
  · exact copy_some h h1 hkn hl ha
end Go.Proofs.YtmmoilmfpiclgaaGreat

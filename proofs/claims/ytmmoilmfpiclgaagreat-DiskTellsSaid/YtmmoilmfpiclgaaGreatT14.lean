/-
  Maps of names with numbers: what a look-up finds, what a store and a deletion leave; the three acts.
-/
import Derived.Test.YtmmoilmfpiclgaaGreatT13
import Derived.Maps.OwnOps
import Derived.Maps.OwnSet
set_option linter.unusedVariables false
set_option linter.unusedSimpArgs false
namespace Go.Proofs.YtmmoilmfpiclgaaGreat.Fld
open Go.RowKit Go.Shelf

theorem keyS : Maps.Keyed Tryz.prog 9 := Maps.string_keyed Tryz.underlying9
theorem zero3 (w : World) : (zeroValue 3).run Tryz.prog w = .ok (.int .i64 0) w := by kernel_rfl

/-- Block b is a map of these names, rising, each with its number. -/
def NamesAt (w : World) (b : Nat) (L : Names) : Prop := w.ownsMap Tryz.prog 9 (plainElem Tryz.prog 3) b L.length (datD L) ∧ Rising L

theorem owns_tight {w : World} {b n : Nat} {D : DataW Unit} (h : w.ownsMap Tryz.prog 9 (plainElem Tryz.prog 3) b n D) : w.ownsMap Tryz.prog 9 (plainElem Tryz.prog 3) b (Maps.size D) D := by
  obtain ⟨es, clock, hb, F, hs, rfl⟩ := h
  exact ⟨es, clock, hb, F, by simp [Maps.size, length_sorted], rfl⟩

theorem NamesAt.lt {w : World} {b : Nat} {L : Names} (h : NamesAt w b L) : b < w.heap.size := h.1.lt
theorem NamesAt.mem {w : World} {b : Nat} {L : Names} (h : NamesAt w b L) : ∃ es clock, w.heap[b]? = some (.map es clock) := by
  obtain ⟨es, clock, hb, _⟩ := h.1
  exact ⟨es, clock, hb⟩
theorem NamesAt.same {w w' : World} {b : Nat} {L : Names} (h : NamesAt w b L) (he : w'.heap[b]? = w.heap[b]?) : NamesAt w' b L := by
  obtain ⟨⟨es, clock, hb, F, hs, hD⟩, h2⟩ := h
  exact ⟨⟨es, clock, he.trans hb, F, hs, hD⟩, h2⟩
theorem NamesAt.ne {w : World} {b g : Nat} {L : Names} {cs : Array Value} {T : TypeId} {fz : Nat × Nat} (h : NamesAt w b L) (hg : w.heap[g]? = some (.cells cs T fz)) : g ≠ b := fun e => by
  obtain ⟨es, clock, hb⟩ := h.mem
  rw [e, hb] at hg
  cases hg

theorem names_made (w : World) : NamesAt (w.alloc (.map #[] 0)) w.heap.size [] := ⟨World.ownsMap_made _ _ _ _, Rising.nil⟩

/-- What a look-up finds of a name. -/
def foundN (L : Names) (k : List UInt8) : Nat := (findT L k).getD 0
def foundB (L : Names) (k : List UInt8) : Bool := (findT L k).isSome

theorem key_is (s : ByteArray) (hs : s.size ≤ nameMax) : keyOf Tryz.prog 9 (.string s) = some (.string s.data.toList) := Go.WideMaps.keyOf_string_mk Tryz.underlying9 (by unfold maxLen; have := nameMax_le; omega)

theorem NamesAt.look {w : World} {b : Nat} {L : Names} (h : NamesAt w b L) (s : ByteArray) (hs : s.size ≤ nameMax) :
    (Instr.lookup 68 (.map (some b)) (.string s) true).run Tryz.prog w = .ok (.tuple #[.int .i64 (foundN L s.data.toList : Nat), .bool (foundB L s.data.toList)]) w := by
  obtain ⟨v, ps, hrun, hv⟩ := h.1.look_ok keyS Tryz.underlying68 (zero3 w) (plainElem_int Tryz.underlying3 (by decide)) (key_is s hs)
  obtain ⟨c, rfl, hc, _⟩ := plainElem_int_inv Tryz.underlying3 hv
  have hc := congrArg Prod.fst hc
  obtain ⟨f1, f2⟩ := find_dat s.data.toList (.lit (.int .i64 0)) L
  simp only at hc
  rw [f2] at hc
  rw [hrun, f1]
  have : c = (foundN L s.data.toList : Nat) := by
    unfold foundN
    cases hf : findT L s.data.toList with
    | none => rw [hf] at hc; simp only [Option.map_none, Option.getD_none] at hc; cases hc; rfl
    | some n => rw [hf] at hc; simp only [Option.map_some, Option.getD_some, numD] at hc; cases hc; rfl
  rw [this]
  rfl

theorem look_none (w : World) (s : ByteArray) (hs : s.size ≤ nameMax) : (Instr.lookup 68 (.map none) (.string s) true).run Tryz.prog w = .ok (.tuple #[.int .i64 0, .bool false]) w :=
  Maps.look_nil true keyS Tryz.underlying68 (zero3 w) (key_is s hs)

theorem NamesAt.put {w : World} {b : Nat} {L : Names} (h : NamesAt w b L) (s : ByteArray) (hs : s.size ≤ nameMax) (n : Nat) (hn : n ≤ 1000000) (hL : L.length ≤ 1000000) :
    ∃ w', (Instr.mapUpdate 68 (.map (some b)) (.string s) (.int .i64 (n : Int))).run Tryz.prog w = .ok () w' ∧ NamesAt w' b (withT L s.data.toList n) ∧ w.grownBy w' (some b) := by
  obtain ⟨w', h1, h2, h3⟩ := h.1.store keyS Tryz.underlying68 (by unfold maxLen; omega) (key_is s hs) (plainElem_int Tryz.underlying3 (a := (n : Int)) (WalkArith.wf_i64 (by omega)))
  rw [show DataW.lit (.int .i64 (n : Int)) = numD n from rfl, put_dat h.2] at h2
  have h4 := owns_tight h2
  rw [size_dat] at h4
  exact ⟨w', h1, ⟨h4, h.2.with _ _⟩, h3.grown⟩

theorem NamesAt.drop {w : World} {b : Nat} {L : Names} (h : NamesAt w b L) (s : ByteArray) (hs : s.size ≤ nameMax) (ty : TypeId) :
    ∃ w', (Builtin.delete_ #[68, 9] ty #[.map (some b), .string s]).run Tryz.prog w = .ok (.tuple #[]) w' ∧ NamesAt w' b (withoutT L s.data.toList) ∧ w.grownBy w' (some b) := by
  obtain ⟨w', h1, h2, h3⟩ := h.1.drop keyS Tryz.underlying68 (key_is s hs) ty
  rw [del_dat] at h2
  have h4 := owns_tight h2
  rw [size_dat] at h4
  exact ⟨w', h1, ⟨h4, h.2.without _⟩, h3.grown⟩

section
variable (w : World) {ops : Array Oper} {rest : List Oper} {o : Oper} {a : Act} {Q : Exit → Act → World → Prop}
theorem wpList_put_names (hg : o.guard = none) (m x v : Operand) (hop : o.op = Op.mapUpdate 68 m x v) (b : Nat) (L : Names) (s : ByteArray) (n : Nat)
    (hm : a.eval m = .map (some b)) (hx : a.eval x = .string s) (hv : a.eval v = .int .i64 (n : Int)) (h : NamesAt w b L) (hs : s.size ≤ nameMax) (hn : n ≤ 1000000) (hL : L.length ≤ 1000000)
    (hK : ∀ w', NamesAt w' b (withT L s.data.toList n) → w.grownBy w' (some b) → wpList Tryz.prog ops Q rest (a.put o.dst undef) w') : wpList Tryz.prog ops Q (o :: rest) a w := by
  refine wpList_plain hg fun K' hK' => ?_
  obtain ⟨w', hrun, r1, r2⟩ := h.put s hs n hn hL
  unfold Oper.wp
  simp [execOp, hop, hm, hx, hv, hrun, Result.andThen]
  exact hK' _ _ (hK w' r1 r2)
theorem wpList_drop_names (hg : o.guard = none) (m x : Operand) (hop : o.op = Op.call { callee := Callee.builtin Builtin.delete, args := #[m, x], argTypes := #[68, 9] }) (b : Nat) (L : Names) (s : ByteArray)
    (hm : a.eval m = .map (some b)) (hx : a.eval x = .string s) (h : NamesAt w b L) (hs : s.size ≤ nameMax)
    (hK : ∀ w', NamesAt w' b (withoutT L s.data.toList) → w.grownBy w' (some b) → wpList Tryz.prog ops Q rest (a.put o.dst (.tuple #[])) w') : wpList Tryz.prog ops Q (o :: rest) a w := by
  refine wpList_plain hg fun K' hK' => ?_
  obtain ⟨w', hrun, r1, r2⟩ := h.drop s hs o.type
  unfold Oper.wp
  simp [execOp, hop, resolve, invoke, builtin, hm, hx, hrun, Result.andThen]
  exact hK' _ _ (hK w' r1 r2)
end

/-- An act, told. -/
inductive FAct
  | create (k : ByteArray) (n : Nat)
  | rename (a b : ByteArray) (n : Nat)
  | remove (k : ByteArray)

def FAct.on (L : Names) : FAct → Names
  | .create k n => withT L k.data.toList n
  | .rename a b n => withT (withoutT L a.data.toList) b.data.toList n
  | .remove k => withoutT L k.data.toList
def actsOn (L : Names) (A : List FAct) : Names := A.foldl FAct.on L
theorem actsOn_nil (L : Names) : actsOn L [] = L := rfl
theorem actsOn_cons (L : Names) (x : FAct) (A : List FAct) : actsOn L (x :: A) = actsOn (x.on L) A := rfl
theorem actsOn_snoc (L : Names) (A : List FAct) (x : FAct) : actsOn L (A ++ [x]) = x.on (actsOn L A) := by simp [actsOn, List.foldl_append]
theorem actsOn_append (L : Names) (A B : List FAct) : actsOn L (A ++ B) = actsOn (actsOn L A) B := by simp [actsOn, List.foldl_append]

/-- Names and numbers within bounds. -/
def FAct.fine : FAct → Prop
  | .create k n => k.size ≤ nameMax ∧ n ≤ 1000000
  | .rename a b n => a.size ≤ nameMax ∧ b.size ≤ nameMax ∧ n ≤ 1000000
  | .remove k => k.size ≤ nameMax

theorem on_length (L : Names) (x : FAct) : (x.on L).length ≤ L.length + 1 := by
  cases x with
  | create k n => exact with_length _ _
  | rename a b n => exact Nat.le_trans (with_length _ _) (Nat.succ_le_succ (without_length _ _))
  | remove k => exact Nat.le_succ_of_le (without_length _ _)
theorem actsOn_length (L : Names) : ∀ A : List FAct, (actsOn L A).length ≤ L.length + A.length := by
  intro A
  induction A generalizing L with
  | nil => exact Nat.le_refl _
  | cons x r ih =>
    rw [actsOn_cons]
    have h1 := ih (x.on L)
    have h2 := on_length L x
    simp; omega
theorem on_rising {L : Names} (h : Rising L) (x : FAct) : Rising (x.on L) := by
  cases x with
  | create k n => exact h.with _ _
  | rename a b n => exact (h.without _).with _ _
  | remove k => exact h.without _
theorem actsOn_rising {L : Names} (h : Rising L) (A : List FAct) : Rising (actsOn L A) := by
  induction A generalizing L with
  | nil => exact h
  | cons x r ih => exact ih (on_rising h x)

/-- An act, as the closure that it is; I: what it has caught. -/
def FActAt (w : World) (f : Value) (x : FAct) (I : Nat → Prop) : Prop :=
  match x with
  | .create k n => ∃ c d, f = .func (.func 94) #[] #[.pointer (some ⟨c, 0, none⟩), .pointer (some ⟨d, 0, none⟩)] ∧ w.heap[c]? = some (.cells #[.int .i64 (n : Int)] 3 (0, 0)) ∧ w.heap[d]? = some (.cells #[.string k] 9 (0, 0)) ∧ I c ∧ I d
  | .rename a b n => ∃ c d e, f = .func (.func 133) #[] #[.pointer (some ⟨c, 0, none⟩), .pointer (some ⟨d, 0, none⟩), .pointer (some ⟨e, 0, none⟩)] ∧ w.heap[c]? = some (.cells #[.string a] 9 (0, 0)) ∧ w.heap[d]? = some (.cells #[.int .i64 (n : Int)] 3 (0, 0)) ∧ w.heap[e]? = some (.cells #[.string b] 9 (0, 0)) ∧ I c ∧ I d ∧ I e
  | .remove k => ∃ c, f = .func (.func 134) #[] #[.pointer (some ⟨c, 0, none⟩)] ∧ w.heap[c]? = some (.cells #[.string k] 9 (0, 0)) ∧ I c

theorem FActAt.same {w w' : World} {f : Value} {x : FAct} {I J : Nat → Prop} (h : FActAt w f x I) (he : ∀ g, I g → (∃ cs T, w.heap[g]? = some (.cells cs T (0, 0))) → w'.heap[g]? = w.heap[g]?) (hj : ∀ g, I g → J g) : FActAt w' f x J := by
  cases x with
  | create k n =>
    obtain ⟨c, d, h1, h2, h3, h4, h5⟩ := h
    exact ⟨c, d, h1, (he c h4 ⟨_, _, h2⟩).trans h2, (he d h5 ⟨_, _, h3⟩).trans h3, hj c h4, hj d h5⟩
  | rename a b n =>
    obtain ⟨c, d, e, h1, h2, h3, h4, h5, h6, h7⟩ := h
    exact ⟨c, d, e, h1, (he c h5 ⟨_, _, h2⟩).trans h2, (he d h6 ⟨_, _, h3⟩).trans h3, (he e h7 ⟨_, _, h4⟩).trans h4, hj c h5, hj d h6, hj e h7⟩
  | remove k =>
    obtain ⟨c, h1, h2, h3⟩ := h
    exact ⟨c, h1, (he c h3 ⟨_, _, h2⟩).trans h2, hj c h3⟩
theorem FActAt.one {w : World} {f : Value} {x : FAct} {I : Nat → Prop} (h : FActAt w f x I) : f.oneCell' = true := by
  cases x with
  | create k n => obtain ⟨c, d, rfl, _⟩ := h; rfl
  | rename a b n => obtain ⟨c, d, e, rfl, _⟩ := h; rfl
  | remove k => obtain ⟨c, rfl, _⟩ := h; rfl

set_option maxHeartbeats 1000000 in
set_option maxRecDepth 100000 in
theorem create_act {w : World} {b c d n : Nat} {k : ByteArray} {L : Names} (h : NamesAt w b L) (hc : w.heap[c]? = some (.cells #[.int .i64 (n : Int)] 3 (0, 0))) (hd : w.heap[d]? = some (.cells #[.string k] 9 (0, 0))) (hk : k.size ≤ nameMax) (hn : n ≤ 1000000) (hL : L.length ≤ 1000000) :
    Calls Tryz.prog 94 #[.map (some b), .pointer (some ⟨c, 0, none⟩), .pointer (some ⟨d, 0, none⟩)] w fun e w' => e = .returned (.tuple #[]) ∧ NamesAt w' b (withT L k.data.toList n) ∧ w.grownBy w' (some b) := by
  have k0 : w.cell? ⟨c, 0, none⟩ = some (.int .i64 (n : Int)) := by rw [cell_of_row w c 0 _ _ _ hc]; rfl
  have k1 : w.cell? ⟨d, 0, none⟩ = some (.string k) := by rw [cell_of_row w d 0 _ _ _ hd]; rfl
  have H := Lib.hid h
  clear h hc hd
  go_enter Tryz.func94, Tryz.ntmps94
  go_wp2_with (at_mapUpdate; refine wpList_put_names w rfl _ _ _ rfl b L k n rfl rfl rfl H.out hk hn hL ?_; intro w1 h1 g1; have H1 := Lib.hid (And.intro h1 g1); clear h1 g1)
  exact bodyPost_end (v := .tuple #[]) (by simp [results, Tryz.results94, go_sem]) rfl ⟨rfl, H1.out.1, H1.out.2⟩

set_option maxHeartbeats 1000000 in
set_option maxRecDepth 100000 in
theorem rename_act {w : World} {m c d e n : Nat} {a b : ByteArray} {L : Names} (h : NamesAt w m L) (hc : w.heap[c]? = some (.cells #[.string a] 9 (0, 0))) (hd : w.heap[d]? = some (.cells #[.int .i64 (n : Int)] 3 (0, 0))) (he : w.heap[e]? = some (.cells #[.string b] 9 (0, 0))) (ha : a.size ≤ nameMax) (hb : b.size ≤ nameMax) (hn : n ≤ 1000000) (hL : L.length ≤ 1000000) :
    Calls Tryz.prog 133 #[.map (some m), .pointer (some ⟨c, 0, none⟩), .pointer (some ⟨d, 0, none⟩), .pointer (some ⟨e, 0, none⟩)] w fun e w' => e = .returned (.tuple #[]) ∧ NamesAt w' m (withT (withoutT L a.data.toList) b.data.toList n) ∧ w.grownBy w' (some m) := by
  have k0 : w.cell? ⟨c, 0, none⟩ = some (.string a) := by rw [cell_of_row w c 0 _ _ _ hc]; rfl
  have K : Hid (∀ w', w.grownBy w' (some m) → w'.cell? ⟨d, 0, none⟩ = some (.int .i64 (n : Int)) ∧ w'.cell? ⟨e, 0, none⟩ = some (.string b)) := Lib.hid fun w' hg => by
    have h1 := (hg.block d (Array.getElem?_eq_some_iff.1 hd).1 (fun x => h.ne hd (Option.some.inj x))).trans hd
    have h2 := (hg.block e (Array.getElem?_eq_some_iff.1 he).1 (fun x => h.ne he (Option.some.inj x))).trans he
    exact ⟨by rw [cell_of_row _ d 0 _ _ _ h1]; rfl, by rw [cell_of_row _ e 0 _ _ _ h2]; rfl⟩
  have H := Lib.hid h
  clear h hc hd he
  go_enter Tryz.func133, Tryz.ntmps133
  go_wp2_with (first
    | (at_delete; refine wpList_drop_names w rfl _ _ rfl m L a rfl rfl H.out ha ?_; intro w1 h1 g1; obtain ⟨k1, k2⟩ := K.out w1 g1; have H1 := Lib.hid (And.intro h1 g1); clear h1 g1)
    | (at_mapUpdate; refine wpList_put_names _ rfl _ _ _ rfl m _ b n rfl rfl rfl H1.out.1 hb hn (Nat.le_trans (without_length _ _) hL) ?_; intro w2 h2 g2; have H2 := Lib.hid (And.intro h2 g2); clear h2 g2))
  exact bodyPost_end (v := .tuple #[]) (by simp [results, Tryz.results133, go_sem]) rfl ⟨rfl, H2.out.1, grownBy_trans H1.out.2 H2.out.2⟩

set_option maxHeartbeats 1000000 in
set_option maxRecDepth 100000 in
theorem remove_act {w : World} {b c : Nat} {k : ByteArray} {L : Names} (h : NamesAt w b L) (hc : w.heap[c]? = some (.cells #[.string k] 9 (0, 0))) (hk : k.size ≤ nameMax) :
    Calls Tryz.prog 134 #[.map (some b), .pointer (some ⟨c, 0, none⟩)] w fun e w' => e = .returned (.tuple #[]) ∧ NamesAt w' b (withoutT L k.data.toList) ∧ w.grownBy w' (some b) := by
  have k0 : w.cell? ⟨c, 0, none⟩ = some (.string k) := by rw [cell_of_row w c 0 _ _ _ hc]; rfl
  have H := Lib.hid h
  clear h hc
  go_enter Tryz.func134, Tryz.ntmps134
  go_wp2_with (at_delete; refine wpList_drop_names w rfl _ _ rfl b L k rfl rfl H.out hk ?_; intro w1 h1 g1; have H1 := Lib.hid (And.intro h1 g1); clear h1 g1)
  exact bodyPost_end (v := .tuple #[]) (by simp [results, Tryz.results134, go_sem]) rfl ⟨rfl, H1.out.1, H1.out.2⟩
end Go.Proofs.YtmmoilmfpiclgaaGreat.Fld

/-
  A map of files by their numbers: which numbers stand in it, each with its file's block. A disk in memory: the folder that is its first part, its other cells, the map of its files, the files, the row of what lost its name. What becomes of a disk in memory where one of its parts turns. What a disk in memory answers to those that only read: whether it is down, how much is used, its quota and steps, its room, a file by its name. A step of a disk in memory: it is counted, it may be the one at which all stops; what is done behind it. A file is put into a disk's map. A method of a disk in memory that asks first: what it is made of.
-/
import Derived.Test.YtmmoilmfpiclgaaGreatT06
import Derived.Test.YtmmoilmfpiclgaaGreatT24
import Derived.Maps.OwnOps
import Derived.Maps.OwnSet
import Derived.Maps.RangeWalk
import Derived.Sort.Walk0
import Derived.Test.YtmmoilmfpiclgaaGreatT20
import Derived.Test.YtmmoilmfpiclgaaGreatT19
import Derived.Deep.RegionHeld3
import Derived.BigQuiet
import Derived.Deep.CutRange
set_option linter.unusedVariables false
set_option linter.unusedSimpArgs false
namespace Go.Proofs.YtmmoilmfpiclgaaGreat
open Go.RowKit Go.Shelf

theorem keyI : Maps.Keyed Tryz.prog 3 := Maps.int_keyed Tryz.underlying3
theorem zeroP (w : World) : (zeroValue 79).run Tryz.prog w = .ok (.pointer none) w := by kernel_rfl

/-- A pointer to a block, as a map's element. -/
def ptrElem (v : Value) : Option (DataW Unit × List MemPlace) :=
  match v with
  | .pointer none => some (.nil, [])
  | .pointer (some ⟨b, 0, none⟩) => some (.lit (.int .i64 (b : Int)), [])
  | _ => none
theorem ptrElem_mk (b : Nat) : ptrElem (.pointer (some ⟨b, 0, none⟩)) = some (.lit (.int .i64 (b : Int)), []) := rfl
theorem ptrElem_inv {v : Value} {z : DataW Unit × List MemPlace} (h : ptrElem v = some z) : (v = .pointer none ∧ z = (.nil, [])) ∨ ∃ b : Nat, v = .pointer (some ⟨b, 0, none⟩) ∧ z = (.lit (.int .i64 (b : Int)), []) := by
  unfold ptrElem at h
  split at h
  · cases h; exact .inl ⟨rfl, rfl⟩
  · cases h; exact .inr ⟨_, rfl, rfl⟩
  · cases h

theorem ownsMap_tight {w : World} {b n : Nat} {D : DataW Unit} (h : w.ownsMap Tryz.prog 3 ptrElem b n D) : w.ownsMap Tryz.prog 3 ptrElem b (Maps.size D) D := by
  obtain ⟨es, clock, hb, F, hs, rfl⟩ := h
  exact ⟨es, clock, hb, F, by simp [Maps.size, length_sorted], rfl⟩

/-- Block m is a map in which just the numbers of P stand, each with its block. -/
def HasP (w : World) (m : Nat) (P : Nat → Option Nat) : Prop :=
  ∃ D : DataW Unit, w.ownsMap Tryz.prog 3 ptrElem m (Maps.size D) D ∧ (∀ x : Nat, Maps.has D (.int .i64 (x : Int)) = (P x).isSome) ∧
    (∀ (x b : Nat), P x = some b → ∀ z, D.atKey (.int .i64 (x : Int)) z = .lit (.int .i64 (b : Int))) ∧ ∀ kl, Maps.has D kl = true → ∃ x : Nat, kl = .int .i64 (x : Int)

theorem hasP_made (w : World) : HasP (w.alloc (.map #[] 0)) w.heap.size (fun _ => none) := ⟨.map [], World.ownsMap_made _ _ _ _, fun _ => rfl, (fun x b h => by cases h), (fun kl (h : Maps.has (DataW.map ([] : List (Lit × DataW Unit))) kl = true) => Bool.noConfusion h)⟩
theorem HasP.same {w w' : World} {m : Nat} {P : Nat → Option Nat} (h : HasP w m P) (he : w'.heap[m]? = w.heap[m]?) : HasP w' m P := by
  obtain ⟨D, ⟨es, clock, hb, F, hs, hD⟩, h2⟩ := h
  exact ⟨D, ⟨es, clock, he.trans hb, F, hs, hD⟩, h2⟩
theorem HasP.lt {w : World} {m : Nat} {P : Nat → Option Nat} (h : HasP w m P) : m < w.heap.size := by
  obtain ⟨D, h1, _⟩ := h
  exact h1.lt
theorem HasP.mem {w : World} {m : Nat} {P : Nat → Option Nat} (h : HasP w m P) : ∃ es clock, w.heap[m]? = some (.map es clock) := by
  obtain ⟨D, ⟨es, clock, hb, _⟩, _⟩ := h
  exact ⟨es, clock, hb⟩
theorem key_int (x : Nat) (hx : x ≤ 1000000000) : keyOf Tryz.prog 3 (.int .i64 (x : Int)) = some (.int .i64 (x : Int)) := Maps.keyOf_int_mk Tryz.underlying3 (a := (x : Int)) (WalkArith.wf_i64 (by omega))
theorem HasP.look {w : World} {m : Nat} {P : Nat → Option Nat} (h : HasP w m P) {x b : Nat} (hx : x ≤ 1000000000) (hn : P x = some b) :
    (Instr.lookup 74 (.map (some m)) (.int .i64 (x : Int)) false).run Tryz.prog w = .ok (.pointer (some ⟨b, 0, none⟩)) w := by
  obtain ⟨D, h1, -, h2, -⟩ := h
  obtain ⟨v, ps, hrun, hv⟩ := h1.lookup keyI Tryz.underlying74 (zeroP w) (zd := .nil) (zp := []) rfl (key_int x hx)
  rw [h2 x b hn] at hv
  rcases ptrElem_inv hv with ⟨_, h3⟩ | ⟨b', rfl, h3⟩
  · cases h3
  · have : b = b' := by simp only [Prod.mk.injEq, DataW.lit.injEq, Lit.int.injEq, true_and] at h3; exact Int.ofNat.inj h3.1
    subst this
    exact hrun

/-- Numbers that are all at most N, and no two the same, are no more than those. -/
theorem nodup_le : ∀ (N : Nat) (l : List Nat), l.Pairwise (· ≠ ·) → (∀ x ∈ l, x < N) → l.length ≤ N
  | 0, l, _, h => by
    cases l with
    | nil => exact Nat.le_refl _
    | cons a r => exact absurd (h a (by simp)) (Nat.not_lt_zero a)
  | N + 1, l, hp, h => by
    have h1 := nodup_le N (l.filter (· ≠ N)) (hp.filter _) (fun x hx => by
      obtain ⟨h2, h3⟩ := List.mem_filter.1 hx
      have := h x h2
      have h3 : x ≠ N := by simpa using h3
      omega)
    have h2 : l.length ≤ (l.filter (· ≠ N)).length + 1 := by
      clear h1 h
      induction l with
      | nil => simp
      | cons a r ih =>
        obtain ⟨ha, hr⟩ := List.pairwise_cons.1 hp
        by_cases e : a = N
        · have : r.filter (· ≠ N) = r := List.filter_eq_self.2 fun x hx => by have := ha x hx; subst e; simpa using fun e => this e.symm
          subst e
          rw [List.filter_cons_of_neg (by simp), this]
          simp
        · have := ih hr
          simp [e] at this ⊢
          omega
    omega
theorem HasP.size {w : World} {m N : Nat} {P : Nat → Option Nat} (hN : ∀ x b, P x = some b → x < N) {D : DataW Unit} (h1 : w.ownsMap Tryz.prog 3 ptrElem m (Maps.size D) D) (h2 : ∀ x : Nat, Maps.has D (.int .i64 (x : Int)) = (P x).isSome)
    (h3 : ∀ kl, Maps.has D kl = true → ∃ x : Nat, kl = .int .i64 (x : Int)) : Maps.size D ≤ N := by
  obtain ⟨es, rfl, hp, hk⟩ := h1.entries keyI
  have hin : ∀ p ∈ es, ∃ x : Nat, p.1 = .int .i64 (x : Int) ∧ x < N := fun p hp' => by
    have hh : Maps.has (DataW.map es) p.1 = true := List.any_eq_true.2 ⟨p, hp', WideAt.sameKey_self (hk p hp')⟩
    obtain ⟨x, hx⟩ := h3 _ hh
    have := h2 x
    rw [← hx, hh] at this
    cases hq : P x with
    | none => rw [hq] at this; cases this
    | some b => exact ⟨x, hx, hN x b hq⟩
  have := nodup_le N (es.map fun p => match p.1 with | .int _ a => a.toNat | _ => 0) (by
    rw [List.pairwise_map]
    refine hp.imp_of_mem fun {p q} hp' hq' hne => ?_
    obtain ⟨x, hx, _⟩ := hin p hp'
    obtain ⟨y, hy, _⟩ := hin q hq'
    simp only [hx, hy, Int.toNat_natCast]
    intro e
    exact hne (by rw [hx, hy, e])) (fun x hx => by
    obtain ⟨p, hp', rfl⟩ := List.mem_map.1 hx
    obtain ⟨y, hy, hlt⟩ := hin p hp'
    simpa [hy] using hlt)
  rw [List.length_map] at this
  exact this

def pset (P : Nat → Option Nat) (x b : Nat) : Nat → Option Nat := fun y => if y = x then some b else P y
def pdel (P : Nat → Option Nat) (x : Nat) : Nat → Option Nat := fun y => if y = x then none else P y
theorem pset_same (P : Nat → Option Nat) (x b : Nat) : pset P x b x = some b := if_pos rfl
theorem pset_other (P : Nat → Option Nat) {x y : Nat} (b : Nat) (h : y ≠ x) : pset P x b y = P y := if_neg h
theorem pdel_same (P : Nat → Option Nat) (x : Nat) : pdel P x x = none := if_pos rfl
theorem pdel_other (P : Nat → Option Nat) {x y : Nat} (h : y ≠ x) : pdel P x y = P y := if_neg h

theorem HasP.put {w : World} {m N : Nat} {P : Nat → Option Nat} (h : HasP w m P) (hN : ∀ x b, P x = some b → x < N) (hN2 : N ≤ 1000000) (x b : Nat) (hx : x ≤ 1000000000) :
    ∃ w', (Instr.mapUpdate 74 (.map (some m)) (.int .i64 (x : Int)) (.pointer (some ⟨b, 0, none⟩))).run Tryz.prog w = .ok () w' ∧ HasP w' m (pset P x b) ∧ w.grownBy w' (some m) := by
  obtain ⟨D, h1, h2, h3, h4⟩ := h
  have hsz := HasP.size hN h1 h2 h4
  obtain ⟨w', k1, k2, k3⟩ := h1.update keyI Tryz.underlying74 (by unfold maxLen; omega) (key_int x hx) (ptrElem_mk b)
  have hkl : WideAt.IsKeyLit (Lit.int .i64 (x : Int)) := trivial
  have hne : ∀ y : Nat, y ≠ x → (Lit.int .i64 (y : Int)) ≠ .int .i64 (x : Int) := fun y hy e => by injection e with _ e; omega
  refine ⟨w', k1, ⟨_, ownsMap_tight k2, fun y => ?_, fun y c hy z => ?_, fun kl hkl' => ?_⟩, k3⟩
  · by_cases e : y = x
    · subst e
      rw [Maps.has_put_same h1.isMap hkl, pset_same]; rfl
    · rw [Maps.has_put_other (hne y e), pset_other _ _ e]
      exact h2 y
  · by_cases e : y = x
    · subst e
      rw [pset_same] at hy
      cases hy
      exact Maps.atKey_put_same h1.isMap hkl _ _
    · rw [pset_other _ _ e] at hy
      rw [Maps.atKey_put_other (hne y e)]
      exact h3 y c hy z
  · by_cases e : kl = .int .i64 (x : Int)
    · exact ⟨x, e⟩
    · rw [Maps.has_put_other e] at hkl'
      exact h4 kl hkl'
theorem HasP.drop {w : World} {m : Nat} {P : Nat → Option Nat} (h : HasP w m P) (x : Nat) (hx : x ≤ 1000000000) (ty : TypeId) :
    ∃ w', (Builtin.delete_ #[74, 3] ty #[.map (some m), .int .i64 (x : Int)]).run Tryz.prog w = .ok (.tuple #[]) w' ∧ HasP w' m (pdel P x) ∧ w.grownBy w' (some m) := by
  obtain ⟨D, h1, h2, h3, h4⟩ := h
  obtain ⟨w', k1, k2, k3⟩ := h1.drop keyI Tryz.underlying74 (key_int x hx) ty
  have hne : ∀ y : Nat, y ≠ x → (Lit.int .i64 (y : Int)) ≠ .int .i64 (x : Int) := fun y hy e => by injection e with _ e; omega
  refine ⟨w', k1, ⟨_, ownsMap_tight k2, fun y => ?_, fun y c hy z => ?_, fun kl hkl' => ?_⟩, k3.grown⟩
  · by_cases e : y = x
    · subst e
      rw [Maps.has_del_same, pdel_same]; rfl
    · rw [Maps.has_del_other (hne y e), pdel_other _ e]
      exact h2 y
  · by_cases e : y = x
    · subst e
      rw [pdel_same] at hy
      cases hy
    · rw [pdel_other _ e] at hy
      rw [Maps.atKey_del_other (hne y e)]
      exact h3 y c hy z
  · by_cases e : kl = .int .i64 (x : Int)
    · exact ⟨x, e⟩
    · rw [Maps.has_del_other e] at hkl'
      exact h4 kl hkl'

/-- A map, or none. -/
def FMap (w : World) (v : Value) (P : Nat → Option Nat) : Prop := (v = .map none ∧ P = fun _ => none) ∨ ∃ m, v = .map (some m) ∧ HasP w m P
theorem FMap.same {w w' : World} {v : Value} {P : Nat → Option Nat} (h : FMap w v P) (he : ∀ b, Fld.mapOf v = some b → w'.heap[b]? = w.heap[b]?) : FMap w' v P := by
  rcases h with h | ⟨m, rfl, h⟩
  · exact .inl h
  · exact .inr ⟨m, rfl, h.same (he m rfl)⟩
theorem FMap.shape {w : World} {v : Value} {P : Nat → Option Nat} (h : FMap w v P) : ∃ m, v = .map m := by
  rcases h with ⟨rfl, _⟩ | ⟨m, rfl, _⟩
  · exact ⟨_, rfl⟩
  · exact ⟨_, rfl⟩
theorem FMap.look {w : World} {v : Value} {P : Nat → Option Nat} (h : FMap w v P) {x b : Nat} (hx : x ≤ 1000000000) (hn : P x = some b) :
    (Instr.lookup 74 v (.int .i64 (x : Int)) false).run Tryz.prog w = .ok (.pointer (some ⟨b, 0, none⟩)) w := by
  rcases h with ⟨rfl, rfl⟩ | ⟨m, rfl, h⟩
  · cases hn
  · exact h.look hx hn

section
variable (w : World) {ops : Array Oper} {rest : List Oper} {o : Oper} {a : Act} {Q : Exit → Act → World → Prop}
theorem wpList_put_file (hg : o.guard = none) (mm x v : Operand) (hop : o.op = Op.mapUpdate 74 mm x v) (m : Nat) (P : Nat → Option Nat) (n b N : Nat)
    (hm : a.eval mm = .map (some m)) (hx : a.eval x = .int .i64 (n : Int)) (hv : a.eval v = .pointer (some ⟨b, 0, none⟩)) (h : HasP w m P) (hN : ∀ x b, P x = some b → x < N) (hN2 : N ≤ 1000000) (hn : n ≤ 1000000000)
    (hK : ∀ w', HasP w' m (pset P n b) → w.grownBy w' (some m) → wpList Tryz.prog ops Q rest (a.put o.dst undef) w') : wpList Tryz.prog ops Q (o :: rest) a w := by
  refine wpList_plain hg fun K' hK' => ?_
  obtain ⟨w', hrun, r1, r2⟩ := h.put hN hN2 n b hn
  unfold Oper.wp
  simp [execOp, hop, hm, hx, hv, hrun, Result.andThen]
  exact hK' _ _ (hK w' r1 r2)
theorem wpList_drop_file (hg : o.guard = none) (m x : Operand) (hop : o.op = Op.call { callee := Callee.builtin Builtin.delete, args := #[m, x], argTypes := #[74, 3] }) (b : Nat) (P : Nat → Option Nat) (n : Nat)
    (hm : a.eval m = .map (some b)) (hx : a.eval x = .int .i64 (n : Int)) (h : HasP w b P) (hn : n ≤ 1000000000)
    (hK : ∀ w', HasP w' b (pdel P n) → w.grownBy w' (some b) → wpList Tryz.prog ops Q rest (a.put o.dst (.tuple #[])) w') : wpList Tryz.prog ops Q (o :: rest) a w := by
  refine wpList_plain hg fun K' hK' => ?_
  obtain ⟨w', hrun, r1, r2⟩ := h.drop n hn o.type
  unfold Oper.wp
  simp [execOp, hop, resolve, invoke, builtin, hm, hx, hrun, Result.andThen]
  exact hK' _ _ (hK w' r1 r2)
end
end Go.Proofs.YtmmoilmfpiclgaaGreat
namespace Go.Proofs.YtmmoilmfpiclgaaGreat
open Go.RowKit Go.Shelf
open Fld (FS Names FAct actsOn foundN foundB findT withT withoutT GoodN Rising mayB nam nameMax FolderS FolderIn ARow)

/-- The cells behind the folder's four. -/
def DTail (fv lv : Value) (room used steps armed : Nat) (down : Bool) : List Value := [fv, lv, .int .i64 (room : Int), .int .i64 (used : Int), .int .i64 (steps : Int), .int .i64 (armed : Int), .bool down]
@[reducible] def fin (R : List Value) : Fld.FoldIn := ⟨R, 77, by decide⟩

theorem kept_in {M : Nat → Prop} {w w' : World} (h : Fld.Kept M w w') : Kept M w w' := ⟨h.os, h.tape, h.output, h.size, h.block⟩

/-- What there is of a disk in memory: the slice of the folder's acts, and what is in it; the blocks that are written, and those that are only read, by parts: 0 the folder and the cells, 1 the map, 2 the row of lost ones, n + 3 file n. -/
structure DV where
  av : Value
  fs : List Value
  M : Nat → Nat → Prop
  I : Nat → Nat → Prop

structure DiskIn (w : World) (p : Nat) (S : DS) (u : Nat) (v : DV) (fv lv : Value) (lost : List Nat) (armed : Nat) (P : Nat → Option Nat) : Prop where
  fold : @FolderS (fin (DTail fv lv S.room u S.steps armed S.down)) w p S.fold v.av v.fs (v.M 0) (v.I 0)
  arm : S.down = false → armed = S.armed
  armLe : armed ≤ 1000000
  map : FMap w fv P
  mapM : ∀ b, Fld.mapOf fv = some b → v.M 1 b
  row : w.ownsRow 0 3 1 lv lost.length (lost.map fun x : Nat => Value.int .i64 (x : Int))
  rowM : ∀ g, lv.ownBlock = some g → v.M 2 g
  files : ∀ n b, P n = some b → FileAt w b (S.file n).D (S.file n).A (v.M (n + 3)) (v.I (n + 3)) ∧ 1 ≤ n ∧ n ≤ S.fold.n

/-- All numbers that may be there have files; those of lost ones are there no more. -/
def KnownIn (F : FS) (lost : List Nat) (P : Nat → Option Nat) : Prop := Known F (fun n => ∃ b, P n = some b) ∧ (∀ x ∈ lost, x ≤ F.n ∧ ∀ q ∈ F.there, q.2 ≠ x) ∧ lost.length ≤ F.A.length

structure DiskP (w : World) (p : Nat) (S : DS) (v : DV) : Prop where
  it : ∃ fv lv lost armed P, DiskIn w p S S.used v fv lv lost armed P ∧ KnownIn S.fold lost P
  good : S.fold.good
  parts : Parts w v.M v.I
  room : S.room ≤ 1000000000000

/-- What becomes of the rows that a copy of the folder may share. -/
def RK (w' : World) (v v' : DV) : Prop := ∀ b m, v.av.ownBlock = some b → m ≤ v.fs.length →
  ARow w' (.slice (some ⟨b, 0, none⟩) m m) (v.fs.take m) ∧ ((v'.av.ownBlock = some b ∧ m ≤ v'.fs.length ∧ v'.fs.take m = v.fs.take m) ∨ ¬ All v'.M b)

/-- From one world to another one: only its own blocks turn. -/
structure DV.To (w : World) (v : DV) (w' : World) (v' : DV) : Prop where
  m : ∀ g, All v'.M g → All v.M g ∨ w.heap.size ≤ g
  i : ∀ g, All v'.I g → All v.I g ∨ w.heap.size ≤ g
  kept : Kept (All v.M) w w'
  rows : RK w' v v'

def WentK (w : World) (p : Nat) (v : DV) (S' : DS) (w' : World) : Prop := ∃ v', DiskP w' p S' v' ∧ v.To w w' v'

theorem DiskP.row {w : World} {p : Nat} {S : DS} {v : DV} (h : DiskP w p S v) : ARow w v.av v.fs := by
  obtain ⟨fv, lv, lost, armed, P, h1, _⟩ := h.it
  exact @FolderIn.row (fin _) _ _ _ _ _ _ _ _ _ h1.fold
theorem DiskP.rowLt {w : World} {p : Nat} {S : DS} {v : DV} (h : DiskP w p S v) {b : Nat} (hb : v.av.ownBlock = some b) : b < w.heap.size := h.row.lt hb

theorem DV.To.trans {w w1 w2 : World} {v v1 v2 : DV} (hr : ∀ b, v.av.ownBlock = some b → b < w.heap.size) (h : v.To w w1 v1) (k : v1.To w1 w2 v2) : v.To w w2 v2 where
  m := fun g hg => by
    rcases k.m g hg with h1 | h1
    · exact h.m g h1
    · exact .inr (Nat.le_trans h.kept.size h1)
  i := fun g hg => by
    rcases k.i g hg with h1 | h1
    · exact h.i g h1
    · exact .inr (Nat.le_trans h.kept.size h1)
  kept := h.kept.trans k.kept h.m
  rows := fun b m hb hm => by
    obtain ⟨a1, a2⟩ := h.rows b m hb hm
    have hlt : b < w1.heap.size := Nat.lt_of_lt_of_le (hr b hb) h.kept.size
    rcases a2 with ⟨e1, e2, e3⟩ | hn
    · obtain ⟨b1, b2⟩ := k.rows b m e1 e2
      rw [e3] at b1
      refine ⟨b1, b2.imp (fun ⟨c1, c2, c3⟩ => ⟨c1, c2, c3.trans e3⟩) id⟩
    · refine ⟨a1.same fun g hg => ?_, .inr fun hm2 => ?_⟩
      · cases hg
        exact k.kept.block b hlt hn
      · rcases k.m b hm2 with h1 | h1
        · exact hn h1
        · omega

/-- A step that leaves the folder's row as it is. -/
theorem To_same {w w' : World} {p : Nat} {S : DS} {v v' : DV} (h : DiskP w p S v) (ha : v'.av = v.av) (hf : v'.fs = v.fs) (hm : ∀ g, All v'.M g → All v.M g ∨ w.heap.size ≤ g) (hi : ∀ g, All v'.I g → All v.I g ∨ w.heap.size ≤ g)
    (hk : Kept (All v.M) w w') (hr : ∀ g, v.av.ownBlock = some g → w'.heap[g]? = w.heap[g]?) : v.To w w' v' :=
  ⟨hm, hi, hk, fun b m hb hm' => by
    have hrow := h.row.cut hb hm'
    refine ⟨hrow.same fun g hg => by cases hg; exact hr b hb, .inl ⟨by rw [ha]; exact hb, by rw [hf]; exact hm', by rw [hf]⟩⟩⟩

theorem DiskP.below {w w' : World} {p : Nat} {S : DS} {v : DV} (h : DiskP w p S v) (hb : Below w.heap.size w w') : DiskP w' p S v := by
  obtain ⟨fv, lv, lost, armed, P, h1, hk⟩ := h.it
  exact ⟨⟨fv, lv, lost, armed, P, { h1 with
    fold := @FolderIn.below (fin _) _ _ _ _ _ _ _ _ _ _ h1.fold hb
    map := h1.map.same fun b hb' => hb.block b (h.parts.mem 1 b (.inl (h1.mapM b hb')))
    row := owns_same h1.row fun g hg => hb.block g (h.parts.mem 2 g (.inl (h1.rowM g hg)))
    files := fun n b hn => ⟨(h1.files n b hn).1.below hb, (h1.files n b hn).2⟩ }, hk⟩, h.good, h.parts.grow hb.size, h.room⟩
theorem DiskP.went_below {w w' : World} {p : Nat} {S : DS} {v : DV} (h : DiskP w p S v) (hb : Below w.heap.size w w') : WentK w p v S w' :=
  ⟨v, h.below hb, To_same h rfl rfl (fun _ h => .inl h) (fun _ h => .inl h) (Kept.below hb) fun g hg => hb.block g (h.rowLt hg)⟩
theorem WentK.trans {w w1 w2 : World} {p : Nat} {v : DV} {S0 S1 S2 : DS} (h0 : DiskP w p S0 v) (h : WentK w p v S1 w1) (k : ∀ v1, DiskP w1 p S1 v1 → WentK w1 p v1 S2 w2) : WentK w p v S2 w2 := by
  obtain ⟨v1, h1, t1⟩ := h
  obtain ⟨v2, h2, t2⟩ := k v1 h1
  exact ⟨v2, h2, t1.trans (fun b hb => h0.rowLt hb) t2⟩
theorem WentK.next {w w1 w2 : World} {p : Nat} {v : DV} {S0 S1 : DS} (h0 : DiskP w p S0 v) (h : WentK w p v S1 w1) (hb : Below w1.heap.size w1 w2) : WentK w p v S1 w2 :=
  h.trans h0 fun _ h1 => h1.went_below hb
/-- Behind what was made new ahead of it. -/
theorem WentK.after {w w1 w2 : World} {p : Nat} {v : DV} {S0 S1 : DS} (h0 : DiskP w p S0 v) (hb : Below w.heap.size w w1) (k : WentK w1 p v S1 w2) : WentK w p v S1 w2 := by
  obtain ⟨v2, h2, t2⟩ := k
  exact ⟨v2, h2, (To_same (v' := v) h0 rfl rfl (fun _ h => .inl h) (fun _ h => .inl h) (Kept.below hb) fun g hg => hb.block g (h0.rowLt hg)).trans (fun b hb => h0.rowLt hb) t2⟩

/-! the cells -/
theorem four_of {R : List Value} {w : World} {p : Nat} {F : FS} {av : Value} {fs : List Value} {M I : Nat → Prop} (h : @FolderS (fin R) w p F av fs M I) : ∃ a b c d, w.heap[p]? = some (.cells ⟨a :: b :: c :: d :: R⟩ 77 (0, 0)) ∧ M p := by
  letI := fin R
  obtain ⟨lv, tv, h1, _, _, h4, _⟩ := h.it
  exact ⟨_, _, _, _, h1, h4⟩
theorem tail_cell {R : List Value} {w : World} {p : Nat} {F : FS} {av : Value} {fs : List Value} {M I : Nat → Prop} (h : @FolderS (fin R) w p F av fs M I) (i : Nat) : w.cell? ⟨p, i + 4, none⟩ = R[i]? := by
  obtain ⟨a, b, c, d, h1, _⟩ := four_of h
  rw [cell_of_row w p (i + 4) _ _ _ h1]
  simp
theorem tail_free {R : List Value} {w : World} {p : Nat} {F : FS} {av : Value} {fs : List Value} {M I : Nat → Prop} (h : @FolderS (fin R) w p F av fs M I) (o : Nat) : w.frozen? ⟨p, o, none⟩ = false := by
  obtain ⟨a, b, c, d, h1, _⟩ := four_of h
  simp [World.frozen?, h1]
theorem tail_set {R : List Value} {w : World} {p : Nat} {F : FS} {av : Value} {fs : List Value} {M I : Nat → Prop} (h : @FolderS (fin R) w p F av fs M I) (i : Nat) (x : Value) :
    @FolderS (fin (R.set i x)) (w.setCell ⟨p, i + 4, none⟩ x) p F av fs M I ∧ Kept M w (w.setCell ⟨p, i + 4, none⟩ x) ∧ (∀ g, av.ownBlock = some g → g ≠ p) := by
  letI := fin R
  obtain ⟨lv, tv, h1, h2, h3, h4, h5, h6, h7⟩ := h.it
  have h1' : w.heap[p]? = some (.cells ⟨lv :: av :: tv :: Value.int .i64 (F.n : Int) :: R⟩ 77 (0, 0)) := h1
  have n1 : (w.setCell ⟨p, i + 4, none⟩ x).heap[p]? = some (.cells ⟨lv :: av :: tv :: Value.int .i64 (F.n : Int) :: R.set i x⟩ 77 (0, 0)) := by
    have := cells_setCell h1' (i + 4) x
    simpa using this
  have nm : ∀ g, (∃ es clock, w.heap[g]? = some (.map es clock)) → g ≠ p := fun g ⟨es, clock, hm⟩ e => by
    rw [e, h1'] at hm; cases hm
  have nr : ∀ g, av.ownBlock = some g → g ≠ p := fun g hg => by
    obtain ⟨cs, hc⟩ := h.row.mem hg
    exact Fld.two_types hc h1' (by decide)
  refine ⟨@FolderIn.mk (fin (R.set i x)) _ _ _ _ _ _ _ _ _ ⟨lv, tv, n1, h2.same fun b hb => Fld.heap_setCell_ne (nm b (h2.mem hb)), h3.same fun b hb => Fld.heap_setCell_ne (nm b (h3.mem hb)), h4, h5, h6, h7⟩ (h.row.same fun g hg => Fld.heap_setCell_ne (nr g hg))
    (h.acts.same (fun g hg _ => Fld.heap_setCell_ne fun e => h.apart g hg (by rw [e]; exact h4)) (fun _ h => h)) h.room h.fine h.small (fun g hg => by simpa using h.mem g hg) h.apart, Kept.grown (grown_setCell _ _ _ _) (fun g hg => by cases hg; exact h4), nr⟩
end Go.Proofs.YtmmoilmfpiclgaaGreat
namespace Go.Proofs.YtmmoilmfpiclgaaGreat
open Go.RowKit Go.Shelf
open Fld (FS Names FAct actsOn foundN foundB findT withT withoutT GoodN Rising mayB nam nameMax FolderS FolderIn ARow)

theorem DiskIn.p_mem {w : World} {p u : Nat} {S : DS} {v : DV} {fv lv : Value} {lost : List Nat} {armed : Nat} {P : Nat → Option Nat} (h : DiskIn w p S u v fv lv lost armed P) : v.M 0 p ∧ p < w.heap.size := by
  obtain ⟨a, b, c, d, h1, h2⟩ := four_of h.fold
  exact ⟨h2, (Array.getElem?_eq_some_iff.1 h1).1⟩
theorem DiskIn.rowLt {w : World} {p u : Nat} {S : DS} {v : DV} {fv lv : Value} {lost : List Nat} {armed : Nat} {P : Nat → Option Nat} (h : DiskIn w p S u v fv lv lost armed P) : ∀ g, v.av.ownBlock = some g → g < w.heap.size :=
  fun _g hg => (@FolderIn.row (fin _) _ _ _ _ _ _ _ _ _ h.fold).lt hg
theorem DiskIn.rowIn {w : World} {p u : Nat} {S : DS} {v : DV} {fv lv : Value} {lost : List Nat} {armed : Nat} {P : Nat → Option Nat} (h : DiskIn w p S u v fv lv lost armed P) : ∀ g, v.av.ownBlock = some g → v.M 0 g ∨ v.I 0 g := fun g hg => by
  rcases (@FolderIn.room (fin _) _ _ _ _ _ _ _ _ _ h.fold) g hg with k | k
  · exact .inl k
  · exact .inr k.1

theorem DiskIn.to_same {w w' : World} {p u : Nat} {S : DS} {v v' : DV} {fv lv : Value} {lost : List Nat} {armed : Nat} {P : Nat → Option Nat} (h : DiskIn w p S u v fv lv lost armed P) (ha : v'.av = v.av) (hf : v'.fs = v.fs) (hm : ∀ g, All v'.M g → All v.M g ∨ w.heap.size ≤ g) (hi : ∀ g, All v'.I g → All v.I g ∨ w.heap.size ≤ g)
    (hk : Kept (All v.M) w w') (hr : ∀ g, v.av.ownBlock = some g → w'.heap[g]? = w.heap[g]?) : v.To w w' v' :=
  ⟨hm, hi, hk, fun b m hb hm' => by
    have hrow := (@FolderIn.row (fin _) _ _ _ _ _ _ _ _ _ h.fold).cut hb hm'
    refine ⟨hrow.same fun g hg => by cases hg; exact hr b hb, .inl ⟨by rw [ha]; exact hb, by rw [hf]; exact hm', by rw [hf]⟩⟩⟩

/-- One of the disk's own cells is set. -/
theorem DiskIn.cell {w : World} {p u u' : Nat} {S S' : DS} {v : DV} {fv lv fv' lv' : Value} {lost lost' : List Nat} {armed armed' : Nat} {P P' : Nat → Option Nat} (h : DiskIn w p S u v fv lv lost armed P) (hp : Parts w v.M v.I) (i : Nat) (x : Value)
    (hT : (DTail fv lv S.room u S.steps armed S.down).set i x = DTail fv' lv' S'.room u' S'.steps armed' S'.down) (hfold : S'.fold = S.fold) (hfile : S'.file = S.file) (harm : S'.down = false → armed' = S'.armed) (hle : armed' ≤ 1000000)
    (hmap : FMap w fv' P') (hmapM : ∀ b, Fld.mapOf fv' = some b → v.M 1 b) (hrow : w.ownsRow 0 3 1 lv' lost'.length (lost'.map fun x : Nat => Value.int .i64 (x : Int))) (hrowM : ∀ g, lv'.ownBlock = some g → v.M 2 g)
    (hP : ∀ n b, P' n = some b → FileAt w b (S.file n).D (S.file n).A (v.M (n + 3)) (v.I (n + 3)) ∧ 1 ≤ n ∧ n ≤ S.fold.n) :
    DiskIn (w.setCell ⟨p, i + 4, none⟩ x) p S' u' v fv' lv' lost' armed' P' ∧ Parts (w.setCell ⟨p, i + 4, none⟩ x) v.M v.I ∧ v.To w (w.setCell ⟨p, i + 4, none⟩ x) v := by
  obtain ⟨t1, t2, t3⟩ := tail_set h.fold i x
  rw [hT] at t1
  have hne : ∀ k g, k ≠ 0 → v.M k g ∨ v.I k g → g ≠ p := fun k g hk hg e => by
    subst e
    rcases hg with hg | hg
    · exact hp.apart k 0 g hk hg h.p_mem.1
    · exact hp.read k 0 g hg h.p_mem.1
  have hs : (w.setCell ⟨p, i + 4, none⟩ x).heap.size = w.heap.size := by simp
  have same : ∀ k g, k ≠ 0 → v.M k g ∨ v.I k g → (w.setCell ⟨p, i + 4, none⟩ x).heap[g]? = w.heap[g]? := fun k g hk hg => Fld.heap_setCell_ne (hne k g hk hg)
  refine ⟨⟨by rw [hfold]; exact t1, harm, hle, hmap.same fun b hb => same 1 b (by omega) (.inl (hmapM b hb)), hmapM, owns_same hrow fun g hg => same 2 g (by omega) (.inl (hrowM g hg)), hrowM, fun n b hn => ?_⟩, hp.grow (by omega), ?_⟩
  · rw [hfile, hfold]
    exact ⟨(hP n b hn).1.same (fun g hg => same (n + 3) g (by omega) hg) (by omega), (hP n b hn).2⟩
  · exact h.to_same rfl rfl (fun _ h => .inl h) (fun _ h => .inl h) t2.all fun g hg => Fld.heap_setCell_ne (t3 g hg)

/-- .. of what needs no more. -/
theorem DiskIn.number {w : World} {p u u' : Nat} {S S' : DS} {v : DV} {fv lv : Value} {lost : List Nat} {armed armed' : Nat} {P : Nat → Option Nat} (h : DiskIn w p S u v fv lv lost armed P) (hp : Parts w v.M v.I) (i : Nat) (x : Value)
    (hT : (DTail fv lv S.room u S.steps armed S.down).set i x = DTail fv lv S'.room u' S'.steps armed' S'.down) (hfold : S'.fold = S.fold) (hfile : S'.file = S.file) (harm : S'.down = false → armed' = S'.armed) (hle : armed' ≤ 1000000) :
    DiskIn (w.setCell ⟨p, i + 4, none⟩ x) p S' u' v fv lv lost armed' P ∧ Parts (w.setCell ⟨p, i + 4, none⟩ x) v.M v.I ∧ v.To w (w.setCell ⟨p, i + 4, none⟩ x) v :=
  h.cell hp i x hT hfold hfile harm hle h.map h.mapM h.row h.rowM h.files

/-- The folder's blocks without a row that it has no more. -/
theorem drop_row {R : List Value} {w : World} {p : Nat} {F : FS} {av av' : Value} {fs fs' : List Value} {M I : Nat → Prop} (h : @FolderS (fin R) w p F av' fs' M I) (hr : Fld.RowKeeps w av fs av' fs') :
    @FolderS (fin R) w p F av' fs' (fun g => M g ∧ (av.ownBlock = some g → av'.ownBlock = some g)) I := by
  have ty : ∀ b, av.ownBlock = some b → ∃ cs, w.heap[b]? = some (.cells cs 163 (0, 0)) := fun b hb => (hr b 0 hb (Nat.zero_le _)).1.mem rfl
  obtain ⟨x1, x2, x3, x4, h1, h2⟩ := four_of h
  have np : av.ownBlock = some p → False := fun e => by
    obtain ⟨cs, hc⟩ := ty p e
    exact Fld.two_types hc h1 (by decide) rfl
  have nm : ∀ b, (∃ es clock, w.heap[b]? = some (.map es clock)) → av.ownBlock = some b → False := fun b ⟨es, clock, hm⟩ e => by
    obtain ⟨cs, hc⟩ := ty b e
    rw [hm] at hc; cases hc
  obtain ⟨lv, tv, k1, k2, k3, k4, k5, k6, k7⟩ := @FolderIn.it (fin _) _ _ _ _ _ _ _ _ _ h
  refine @FolderIn.mk (fin R) _ _ _ _ _ _ _ _ _ ⟨lv, tv, k1, k2, k3, ⟨k4, fun e => (np e).elim⟩, fun b hb => ⟨k5 b hb, fun e => (nm b (k2.mem hb) e).elim⟩, fun b hb => ⟨k6 b hb, fun e => (nm b (k3.mem hb) e).elim⟩, k7⟩
    (@FolderIn.row (fin _) _ _ _ _ _ _ _ _ _ h) (@FolderIn.acts (fin _) _ _ _ _ _ _ _ _ _ h) (fun b hb => ?_) (@FolderIn.fine (fin _) _ _ _ _ _ _ _ _ _ h) (@FolderIn.small (fin _) _ _ _ _ _ _ _ _ _ h) (fun g hg => ?_) (fun g hg hm => ?_)
  · rcases @FolderIn.room (fin _) _ _ _ _ _ _ _ _ _ h b hb with k | k
    · exact .inl ⟨k, fun _ => hb⟩
    · exact .inr k
  · exact @FolderIn.mem (fin _) _ _ _ _ _ _ _ _ _ h g (hg.imp (·.1) id)
  · exact @FolderIn.apart (fin _) _ _ _ _ _ _ _ _ _ h g hg hm.1

/-- The folder turns. -/
theorem DiskIn.folded {w w' : World} {p u : Nat} {S : DS} {v : DV} {fv lv : Value} {lost : List Nat} {armed : Nat} {P : Nat → Option Nat} (h : DiskIn w p S u v fv lv lost armed P) (hp : Parts w v.M v.I) {F' : FS}
    (hw : @Fld.WentS (fin (DTail fv lv S.room u S.steps armed S.down)) w p v.av v.fs (v.M 0) (v.I 0) F' w') (hn : S.fold.n ≤ F'.n) :
    ∃ v', DiskIn w' p { S with fold := F' } u v' fv lv lost armed P ∧ Parts w' v'.M v'.I ∧ v.To w w' v' ∧ ∀ k, k ≠ 0 → v'.M k = v.M k ∧ v'.I k = v.I k := by
  obtain ⟨av', fs', M', I', h1, h2, h3, h4, h5⟩ := hw
  have h1' := drop_row h1 h5
  have h4' := kept_in h4
  have pin : Parts w' (pput v.M 0 fun g => M' g ∧ (v.av.ownBlock = some g → av'.ownBlock = some g)) (pput v.I 0 I') := hp.step 0 h4'.size (fun g hg => h2 g hg.1) h3 (@FolderIn.mem (fin _) _ _ _ _ _ _ _ _ _ h1') (@FolderIn.apart (fin _) _ _ _ _ _ _ _ _ _ h1')
  have same : ∀ k g, k ≠ 0 → v.M k g ∨ v.I k g → w'.heap[g]? = w.heap[g]? := fun k g hk' hg => hp.kept h4' hk' g hg
  have o1 : ∀ k, k ≠ 0 → pput v.M 0 (fun g => M' g ∧ (v.av.ownBlock = some g → av'.ownBlock = some g)) k = v.M k := fun k hk' => pput_other _ _ hk'
  have o2 : ∀ k, k ≠ 0 → pput v.I 0 I' k = v.I k := fun k hk' => pput_other _ _ hk'
  refine ⟨⟨av', fs', pput v.M 0 fun g => M' g ∧ (v.av.ownBlock = some g → av'.ownBlock = some g), pput v.I 0 I'⟩, ⟨?_, h.arm, h.armLe, h.map.same fun b hb => same 1 b (by omega) (.inl (h.mapM b hb)), ?_, owns_same h.row fun g hg' => same 2 g (by omega) (.inl (h.rowM g hg')), ?_, fun n b hP => ?_⟩, pin, ⟨?_, ?_, h4'.all, fun b m hb hm => ?_⟩, fun k hk' => ⟨o1 k hk', o2 k hk'⟩⟩
  · simp only [pput_same]
    exact h1'
  · simp only [o1 1 (by omega)]
    exact h.mapM
  · simp only [o1 2 (by omega)]
    exact h.rowM
  · simp only [o1 (n + 3) (by omega), o2 (n + 3) (by omega)]
    obtain ⟨q1, q2, q3⟩ := h.files n b hP
    exact ⟨q1.same (fun g hg' => same (n + 3) g (by omega) hg') h4'.size, q2, Nat.le_trans q3 hn⟩
  · exact all_pput fun g hg' => h2 g hg'.1
  · exact all_pput h3
  · obtain ⟨r1, r2⟩ := h5 b m hb hm
    refine ⟨r1, ?_⟩
    by_cases e : av'.ownBlock = some b
    · exact .inl ⟨e, r2 e⟩
    · refine .inr fun ⟨k, hk'⟩ => ?_
      by_cases e0 : k = 0
      · subst e0
        simp only [pput_same] at hk'
        exact e (hk'.2 hb)
      · simp only [o1 k e0] at hk'
        rcases h.rowIn b hb with q | q
        · exact hp.apart k 0 b e0 hk' q
        · exact hp.read 0 k b q hk'

/-- A file turns. -/
theorem DiskIn.filed {w w' : World} {p u : Nat} {S : DS} {v : DV} {fv lv : Value} {lost : List Nat} {armed : Nat} {P : Nat → Option Nat} (h : DiskIn w p S u v fv lv lost armed P) (hp : Parts w v.M v.I) {n b : Nat} (hn : P n = some b) {D' : List UInt8} {A' : List Do} {M' I' : Nat → Prop}
    (h1 : FileAt w' b D' A' M' I') (h2 : ∀ g, M' g → v.M (n + 3) g ∨ w.heap.size ≤ g) (h3 : ∀ g, I' g → v.I (n + 3) g ∨ w.heap.size ≤ g) (h4 : Kept (v.M (n + 3)) w w') (hone : ∀ m c, P m = some c → c = b → m = n) :
    ∃ v', DiskIn w' p { S with file := upd S.file n ⟨D', A'⟩ } u v' fv lv lost armed P ∧ Parts w' v'.M v'.I ∧ v.To w w' v' := by
  have pin : Parts w' (pput v.M (n + 3) M') (pput v.I (n + 3) I') := hp.step (n + 3) h4.size h2 h3 h1.mem h1.apart
  have same : ∀ k g, k ≠ n + 3 → v.M k g ∨ v.I k g → w'.heap[g]? = w.heap[g]? := fun k g hk' hg => hp.kept h4 hk' g hg
  have o1 : ∀ k, k ≠ n + 3 → pput v.M (n + 3) M' k = v.M k := fun k hk' => pput_other _ _ hk'
  have o2 : ∀ k, k ≠ n + 3 → pput v.I (n + 3) I' k = v.I k := fun k hk' => pput_other _ _ hk'
  refine ⟨⟨v.av, v.fs, pput v.M (n + 3) M', pput v.I (n + 3) I'⟩, ⟨?_, h.arm, h.armLe, h.map.same fun b hb => same 1 b (by omega) (.inl (h.mapM b hb)), ?_, owns_same h.row fun g hg' => same 2 g (by omega) (.inl (h.rowM g hg')), ?_, fun m c hP => ?_⟩, pin, ?_⟩
  · simp only [o1 0 (by omega), o2 0 (by omega)]
    exact @FolderIn.same (fin _) _ _ _ _ _ _ _ _ _ _ h.fold (fun g hg => same 0 g (by omega) hg) h4.size
  · simp only [o1 1 (by omega)]
    exact h.mapM
  · simp only [o1 2 (by omega)]
    exact h.rowM
  · by_cases e : m = n
    · subst e
      rw [hn] at hP
      cases hP
      simp only [pput_same, upd_same]
      exact ⟨h1, (h.files _ _ hn).2⟩
    · simp only [o1 (m + 3) (by omega), o2 (m + 3) (by omega), upd_other _ _ e]
      obtain ⟨q1, q2⟩ := h.files m c hP
      exact ⟨q1.same (fun g hg' => same (m + 3) g (by omega) hg') h4.size, q2⟩
  · exact h.to_same rfl rfl (all_pput h2) (all_pput h3) h4.all fun g hg => same 0 g (by omega) (h.rowIn g hg)

/-- A part that holds nothing yet gets blocks that are new. -/
theorem DiskIn.born {w w' : World} {p u : Nat} {S : DS} {v : DV} {fv lv : Value} {lost : List Nat} {armed : Nat} {P : Nat → Option Nat} (h : DiskIn w p S u v fv lv lost armed P) (hp : Parts w v.M v.I) (k : Nat) (hk0 : k ≠ 0) (hk1 : k = 1 → fv = .map none) (hk2 : k = 2 → lv.ownBlock = none) (hk3 : ∀ n, k = n + 3 → P n = none)
    (hb : Below w.heap.size w w') {M' I' : Nat → Prop} (h2 : ∀ g, M' g → w.heap.size ≤ g) (h3 : ∀ g, I' g → w.heap.size ≤ g) (hm : ∀ g, M' g ∨ I' g → g < w'.heap.size) (ha : ∀ g, I' g → ¬ M' g) :
    ∃ v', DiskIn w' p S u v' fv lv lost armed P ∧ Parts w' v'.M v'.I ∧ v.To w w' v' ∧ v'.M k = M' ∧ v'.I k = I' ∧ ∀ l, l ≠ k → v'.M l = v.M l ∧ v'.I l = v.I l := by
  have pin : Parts w' (pput v.M k M') (pput v.I k I') := hp.step k hb.size (fun g hg => .inr (h2 g hg)) (fun g hg => .inr (h3 g hg)) hm ha
  have same : ∀ l g, v.M l g ∨ v.I l g → w'.heap[g]? = w.heap[g]? := fun l g hg => hb.block g (hp.mem l g hg)
  have o1 : ∀ l, l ≠ k → pput v.M k M' l = v.M l := fun l hl => pput_other _ _ hl
  have o2 : ∀ l, l ≠ k → pput v.I k I' l = v.I l := fun l hl => pput_other _ _ hl
  refine ⟨⟨v.av, v.fs, pput v.M k M', pput v.I k I'⟩, ⟨?_, h.arm, h.armLe, h.map.same fun b hb => same 1 b (.inl (h.mapM b hb)), fun b hb' => ?_, owns_same h.row fun g hg' => same 2 g (.inl (h.rowM g hg')), fun g hg => ?_, fun m c hP => ?_⟩, pin, ?_, pput_same _ _ _, pput_same _ _ _, fun l hl => ⟨o1 l hl, o2 l hl⟩⟩
  · simp only [o1 0 (Ne.symm hk0), o2 0 (Ne.symm hk0)]
    exact @FolderIn.same (fin _) _ _ _ _ _ _ _ _ _ _ h.fold (fun g hg => same 0 g hg) hb.size
  · by_cases e : 1 = k
    · rw [hk1 e.symm] at hb'; cases hb'
    · simp only [o1 1 e]
      exact h.mapM b hb'
  · by_cases e : 2 = k
    · rw [hk2 e.symm] at hg; cases hg
    · simp only [o1 2 e]
      exact h.rowM g hg
  · by_cases e : m + 3 = k
    · rw [hk3 m e.symm] at hP; cases hP
    · simp only [o1 (m + 3) e, o2 (m + 3) e]
      obtain ⟨q1, q2⟩ := h.files m c hP
      exact ⟨q1.same (fun g hg' => same (m + 3) g hg') hb.size, q2⟩
  · exact h.to_same rfl rfl (all_pput fun g hg => .inr (h2 g hg)) (all_pput fun g hg => .inr (h3 g hg)) (Kept.below hb) fun g hg => hb.block g (h.rowLt g hg)
theorem DiskIn.below {w w' : World} {p u : Nat} {S : DS} {v : DV} {fv lv : Value} {lost : List Nat} {armed : Nat} {P : Nat → Option Nat} (h : DiskIn w p S u v fv lv lost armed P) (hp : Parts w v.M v.I) (hb : Below w.heap.size w w') : DiskIn w' p S u v fv lv lost armed P ∧ Parts w' v.M v.I ∧ v.To w w' v :=
  ⟨{ h with
    fold := @FolderIn.below (fin _) _ _ _ _ _ _ _ _ _ _ h.fold hb
    map := h.map.same fun b hb' => hb.block b (hp.mem 1 b (.inl (h.mapM b hb')))
    row := owns_same h.row fun g hg => hb.block g (hp.mem 2 g (.inl (h.rowM g hg)))
    files := fun n b hn => ⟨(h.files n b hn).1.below hb, (h.files n b hn).2⟩ }, hp.grow hb.size, h.to_same rfl rfl (fun _ h => .inl h) (fun _ h => .inl h) (Kept.below hb) fun g hg => hb.block g (h.rowLt g hg)⟩
/-- Two numbers are two files. -/
theorem DiskIn.one {w : World} {p u : Nat} {S : DS} {v : DV} {fv lv : Value} {lost : List Nat} {armed : Nat} {P : Nat → Option Nat} (h : DiskIn w p S u v fv lv lost armed P) (hp : Parts w v.M v.I) {n b : Nat} (hn : P n = some b) : ∀ m c, P m = some c → c = b → m = n := fun m c hm e => by
  subst e
  have fm : ∀ {k c : Nat}, P k = some c → v.M (k + 3) c := fun {k c} hk => by
    obtain ⟨_, _, _, _, _, _, _, _, _, _, m0, _⟩ := (h.files k c hk).1.it
    exact m0
  by_cases e : m = n
  · exact e
  · exact absurd (fm hn) (hp.apart (m + 3) (n + 3) c (by omega) (fm hm))
end Go.Proofs.YtmmoilmfpiclgaaGreat
namespace Go.Proofs.YtmmoilmfpiclgaaGreat
open Go.RowKit Go.Shelf
open Fld (FS Names FAct actsOn foundN foundB findT withT withoutT GoodN Rising mayB nam nameMax FolderS FolderIn ARow)

theorem DiskIn.cells {w : World} {p u : Nat} {S : DS} {v : DV} {fv lv : Value} {lost : List Nat} {armed : Nat} {P : Nat → Option Nat} (h : DiskIn w p S u v fv lv lost armed P) :
    w.cell? ⟨p, 4, none⟩ = some fv ∧ w.cell? ⟨p, 5, none⟩ = some lv ∧ w.cell? ⟨p, 6, none⟩ = some (.int .i64 (S.room : Int)) ∧ w.cell? ⟨p, 7, none⟩ = some (.int .i64 (u : Int)) ∧ w.cell? ⟨p, 8, none⟩ = some (.int .i64 (S.steps : Int)) ∧
    w.cell? ⟨p, 9, none⟩ = some (.int .i64 (armed : Int)) ∧ w.cell? ⟨p, 10, none⟩ = some (.bool S.down) ∧ ∀ o, w.frozen? ⟨p, o, none⟩ = false :=
  ⟨tail_cell h.fold 0, tail_cell h.fold 1, tail_cell h.fold 2, tail_cell h.fold 3, tail_cell h.fold 4, tail_cell h.fold 5, tail_cell h.fold 6, tail_free h.fold⟩

set_option maxHeartbeats 1000000 in
set_option maxRecDepth 100000 in
theorem down_any {w : World} {p : Nat} {S : DS} {v : DV} (h : DiskP w p S v) :
    Calls Tryz.prog 32 #[.pointer (some ⟨p, 0, none⟩)] w fun e w' => e = .returned (.bool S.down) ∧ w = w' := by
  obtain ⟨fv, lv, lost, armed, P, h1, _⟩ := h.it
  obtain ⟨_, _, _, _, _, _, c, _⟩ := h1.cells
  clear h h1
  go_enter Tryz.func32, Tryz.ntmps32
  go_wp2
  go_ret
  exact ⟨rfl, rfl⟩

set_option maxHeartbeats 1000000 in
set_option maxRecDepth 100000 in
theorem used_any {w : World} {p : Nat} {S : DS} {v : DV} (h : DiskP w p S v) :
    Calls Tryz.prog 19 #[.pointer (some ⟨p, 0, none⟩)] w fun e w' => e = .returned (.int .i64 (S.usedD : Nat)) ∧ w = w' := by
  have q := down_any h
  obtain ⟨fv, lv, lost, armed, P, h1, _⟩ := h.it
  obtain ⟨_, _, _, c, _⟩ := h1.cells
  clear h h1
  have hd : (S.down = true ∧ S.usedD = 0) ∨ (S.down = false ∧ S.usedD = S.used) := by unfold DS.usedD; cases S.down <;> simp
  obtain ⟨dn, hdn⟩ : ∃ dn, S.down = dn := ⟨_, rfl⟩
  rw [hdn] at q hd
  clear hdn
  rcases hd with ⟨rfl, hd⟩ | ⟨rfl, hd⟩
  all_goals
    rw [hd]
    clear hd
    go_enter Tryz.func19, Tryz.ntmps19
    go_wp2_with (go_at_call 32; (with_reducible refine q.mono ?_); rintro e w' ⟨rfl, rfl⟩)
    go_ret
    exact ⟨rfl, rfl⟩

set_option maxHeartbeats 1000000 in
set_option maxRecDepth 100000 in
theorem quota_any {w : World} {p : Nat} {S : DS} {v : DV} (h : DiskP w p S v) :
    Calls Tryz.prog 36 #[.pointer (some ⟨p, 0, none⟩)] w fun e w' => e = .returned (.int .i64 (S.room : Nat)) ∧ w = w' := by
  obtain ⟨fv, lv, lost, armed, P, h1, _⟩ := h.it
  obtain ⟨_, _, c, _⟩ := h1.cells
  clear h h1
  go_enter Tryz.func36, Tryz.ntmps36
  go_wp2
  go_ret
  exact ⟨rfl, rfl⟩

set_option maxHeartbeats 1000000 in
set_option maxRecDepth 100000 in
theorem steps_any {w : World} {p : Nat} {S : DS} {v : DV} (h : DiskP w p S v) :
    Calls Tryz.prog 37 #[.pointer (some ⟨p, 0, none⟩)] w fun e w' => e = .returned (.int .i64 (S.steps : Nat)) ∧ w = w' := by
  obtain ⟨fv, lv, lost, armed, P, h1, _⟩ := h.it
  obtain ⟨_, _, _, _, c, _⟩ := h1.cells
  clear h h1
  go_enter Tryz.func37, Tryz.ntmps37
  go_wp2
  go_ret
  exact ⟨rfl, rfl⟩

set_option maxHeartbeats 1000000 in
set_option maxRecDepth 100000 in
theorem find_down {w : World} {p : Nat} {S : DS} {v : DV} (h : DiskP w p S v) (s : ByteArray) (hd : S.down = true) :
    Calls Tryz.prog 79 #[.pointer (some ⟨p, 0, none⟩), .string s] w fun e w' => e = .returned (.tuple #[.pointer none, .int .i64 13]) ∧ w = w' := by
  obtain ⟨fv, lv, lost, armed, P, h1, _⟩ := h.it
  obtain ⟨_, _, _, _, _, _, c, _⟩ := h1.cells
  rw [hd] at c
  clear h h1 hd
  go_enter Tryz.func79, Tryz.ntmps79
  go_wp2
  go_ret2
  exact ⟨rfl, rfl⟩

set_option maxHeartbeats 1000000 in
set_option maxRecDepth 100000 in
theorem find_none {w : World} {p : Nat} {S : DS} {v : DV} (h : DiskP w p S v) (s : ByteArray) (hs : s.size ≤ nameMax) (hd : S.down = false) (hf : foundB S.fold.there s.data.toList = false) :
    Calls Tryz.prog 79 #[.pointer (some ⟨p, 0, none⟩), .string s] w fun e w' => e = .returned (.tuple #[.pointer none, .int .i64 9]) ∧ w = w' := by
  obtain ⟨fv, lv, lost, armed, P, h1, _⟩ := h.it
  obtain ⟨_, _, _, _, _, _, c, _⟩ := h1.cells
  have q := @Fld.find_any (fin _) _ _ _ _ _ _ _ _ _ h1.fold s hs
  rw [show actsOn S.fold.L0 S.fold.A = S.fold.there from rfl, hf] at q
  obtain ⟨fn, hfn⟩ : ∃ fn, foundN S.fold.there s.data.toList = fn := ⟨_, rfl⟩
  rw [hfn] at q
  rw [hd] at c
  clear h h1 hd hf hfn hs
  go_enter Tryz.func79, Tryz.ntmps79
  go_wp2_with (go_at_call 83; (with_reducible refine q.mono ?_); rintro e w' ⟨rfl, rfl⟩)
  go_ret2
  exact ⟨rfl, rfl⟩

set_option maxHeartbeats 1000000 in
set_option maxRecDepth 100000 in
/-- The file of a name that is there: at which block it lies. -/
theorem find_some {w : World} {p u : Nat} {S : DS} {v : DV} {fv lv : Value} {lost : List Nat} {armed : Nat} {P : Nat → Option Nat} (h1 : DiskIn w p S u v fv lv lost armed P) (hk : Known S.fold (fun n => ∃ b, P n = some b)) (hn : S.fold.n ≤ 100000) (s : ByteArray) (hs : s.size ≤ nameMax) (hd : S.down = false) (hr : Rising S.fold.there) (hf : foundB S.fold.there s.data.toList = true) :
    ∃ b, P (foundN S.fold.there s.data.toList) = some b ∧ Calls Tryz.prog 79 #[.pointer (some ⟨p, 0, none⟩), .string s] w fun e w' => e = .returned (.tuple #[.pointer (some ⟨b, 0, none⟩), .int .i64 0]) ∧ w = w' := by
  obtain ⟨c0, _, _, _, _, _, c, _⟩ := h1.cells
  have q := @Fld.find_any (fin _) _ _ _ _ _ _ _ _ _ h1.fold s hs
  rw [show actsOn S.fold.L0 S.fold.A = S.fold.there from rfl, hf] at q
  obtain ⟨b, hb⟩ := hk.there _ (Fld.foundB_true hf hr)
  have hl := h1.map.look (x := foundN S.fold.there s.data.toList) (by have := (h1.files _ b hb).2.2; show _ ≤ _; simp only at this; omega) hb
  refine ⟨b, hb, ?_⟩
  obtain ⟨fn, hfn⟩ : ∃ fn, foundN S.fold.there s.data.toList = fn := ⟨_, rfl⟩
  rw [hfn] at q hl
  rw [hd] at c
  obtain ⟨m, rfl⟩ := h1.map.shape
  clear h1 hd hf hfn hs hb hr hk
  go_enter Tryz.func79, Tryz.ntmps79
  go_wp2_with (go_at_call 83; (with_reducible refine q.mono ?_); rintro e w' ⟨rfl, rfl⟩)
  go_ret2
  exact ⟨rfl, rfl⟩

set_option maxHeartbeats 1000000 in
set_option maxRecDepth 100000 in
theorem nil_len (w : World) : Calls Tryz.prog 91 #[.pointer none] w fun e w' => e = .returned (.int .i64 0) ∧ w = w' := by
  go_enter Tryz.func91, Tryz.ntmps91
  go_wp2
  go_ret
  exact ⟨rfl, rfl⟩
end Go.Proofs.YtmmoilmfpiclgaaGreat
namespace Go.Proofs.YtmmoilmfpiclgaaGreat
open Go.RowKit Go.Shelf
open Fld (FS Names FAct actsOn foundN foundB findT withT withoutT GoodN Rising mayB nam nameMax FolderS FolderIn ARow)

set_option maxHeartbeats 1000000 in
set_option maxRecDepth 100000 in
theorem stops_zero {w : World} {p : Nat} (c9 : w.cell? ⟨p, 9, none⟩ = some (.int .i64 0)) :
    Calls Tryz.prog 108 #[.pointer (some ⟨p, 0, none⟩)] w fun e w' => e = .returned (.bool false) ∧ w = w' := by
  go_enter Tryz.func108, Tryz.ntmps108
  go_wp2
  go_ret
  exact ⟨rfl, rfl⟩
set_option maxHeartbeats 1000000 in
set_option maxRecDepth 100000 in
theorem stops_some {w : World} {p a : Nat} (c9 : w.cell? ⟨p, 9, none⟩ = some (.int .i64 (a : Int))) (fz : ∀ o, w.frozen? ⟨p, o, none⟩ = false) (h0 : 0 < a) (h1 : a ≤ 1000000) (bb : Bool) (hb : ((a : Int) - 1 == 0) = bb) :
    Calls Tryz.prog 108 #[.pointer (some ⟨p, 0, none⟩)] w fun e w' => e = .returned (.bool bb) ∧ w' = w.setCell ⟨p, 9, none⟩ (.int .i64 ((a : Int) - 1)) := by
  have fz9 := fz 9
  have hz : ((a : Int) == 0) = false := by simp; omega
  have hlt : p < w.heap.size := by
    by_cases e : p < w.heap.size
    · exact e
    · simp [World.cell?, e] at c9
  clear fz
  go_enter Tryz.func108, Tryz.ntmps108
  go_wp2
  go_ret
  exact ⟨rfl, rfl⟩

theorem stops_more {w : World} {p a : Nat} (c9 : w.cell? ⟨p, 9, none⟩ = some (.int .i64 ((a + 1 : Nat) : Int))) (fz : ∀ o, w.frozen? ⟨p, o, none⟩ = false) (h1 : a + 1 ≤ 1000000) (bb : Bool) (hb : ((a : Int) == 0) = bb) :
    Calls Tryz.prog 108 #[.pointer (some ⟨p, 0, none⟩)] w fun e w' => e = .returned (.bool bb) ∧ w' = w.setCell ⟨p, 9, none⟩ (.int .i64 (a : Int)) := by
  have e : ((a + 1 : Nat) : Int) - 1 = (a : Int) := by omega
  have := stops_some c9 fz (by omega) (by omega) bb (by rw [e]; exact hb)
  rwa [e] at this

/-- What a step that asks first leaves. -/
def Asked (w : World) (p : Nat) (v : DV) (S : DS) (n : Int) (R : World → Prop) (e : Ending) (w' : World) : Prop :=
  (S.stepped.down = true ∧ e = .returned (.int .i64 13) ∧ WentK w p v S.stepped w') ∨ (S.stepped.down = false ∧ e = .returned (.int .i64 n) ∧ R w')

theorem DiskP.cellP {w : World} {p : Nat} {S : DS} {v : DV} (h : DiskP w p S v) : ∃ cs, w.heap[p]? = some (.cells cs 77 (0, 0)) := by
  obtain ⟨fv, lv, lost, armed, P, h1, _⟩ := h.it
  obtain ⟨_, _, _, _, h2, _⟩ := four_of h1.fold
  exact ⟨_, h2⟩

theorem DiskIn.restate {w : World} {p u : Nat} {S S' : DS} {v : DV} {fv lv : Value} {lost : List Nat} {armed : Nat} {P : Nat → Option Nat} (h : DiskIn w p S u v fv lv lost armed P) (h1 : S'.fold = S.fold) (h2 : S'.file = S.file) (h3 : S'.room = S.room) (h4 : S'.steps = S.steps) (h5 : S'.down = S.down)
    (h6 : S'.down = false → armed = S'.armed) : DiskIn w p S' u v fv lv lost armed P := by
  obtain ⟨F, f, r, st, a, d⟩ := S
  obtain ⟨F', f', r', st', a', d'⟩ := S'
  simp only at h1 h2 h3 h4 h5
  subst h1 h2 h3 h4 h5
  exact { h with arm := h6 }

set_option maxHeartbeats 4000000 in
set_option maxRecDepth 100000 in
theorem asked1_any {w : World} {p : Nat} {S : DS} {v : DV} (h : DiskP w p S v) (hst : S.steps ≤ 100000) {bd bo F : Nat} {caps : Array Value} (eg : ∀ args w, (callFunc F args).run Tryz.prog w = .ok (.enter F args) w) (hbd : w.heap[bd]? = some (.cells #[.pointer (some ⟨p, 0, none⟩)] 27 (0, 0)))
    (hbo : w.heap[bo]? = some (.cells #[.func (.func F) #[] caps] 53 (0, 0))) (n : Int) (R : World → Prop) (hdo : ∀ W, DiskP W p S.stepped v → v.To w W v → w.grownBy W (some p) → S.stepped.down = false → Calls Tryz.prog F caps W fun e w' => e = .returned (.int .i64 n) ∧ R w') :
    Calls Tryz.prog 107 #[.pointer (some ⟨bd, 0, none⟩), .pointer (some ⟨bo, 0, none⟩)] w (Asked w p v S n R) := by
  obtain ⟨fv, lv, lost, armed, P, h1, hkn⟩ := h.it
  obtain ⟨cs, hp⟩ := h.cellP
  have n1 : bd ≠ p := Fld.two_types hbd hp (by decide)
  have n2 : bo ≠ p := Fld.two_types hbo hp (by decide)
  obtain ⟨s1, s2, s3⟩ := h1.number (S' := { S with steps := S.steps + 1 }) h.parts 4 (.int .i64 ((S.steps : Int) + 1)) (armed' := armed) (u' := S.used) rfl rfl rfl h1.arm h1.armLe
  have g1 : w.grownBy (w.setCell ⟨p, 4 + 4, none⟩ (.int .i64 ((S.steps : Int) + 1))) (some p) := grown_setCell _ _ _ _
  obtain ⟨_, _, _, _, k8, _, _, kf⟩ := h1.cells
  have kf8 := kf 8
  have hpl := h1.p_mem.2
  have k0 : w.cell? ⟨bd, 0, none⟩ = some (.pointer (some ⟨p, 0, none⟩)) := by rw [cell_of_row w bd 0 _ _ _ hbd]; rfl
  have kbd : ∀ W, w.grownBy W (some p) → W.cell? ⟨bd, 0, none⟩ = some (.pointer (some ⟨p, 0, none⟩)) := fun W g => by rw [cell_of_row W bd 0 _ _ _ ((g.block bd (Array.getElem?_eq_some_iff.1 hbd).1 (fun e => n1 (Option.some.inj e))).trans hbd)]; rfl
  have kbo : ∀ W, w.grownBy W (some p) → W.cell? ⟨bo, 0, none⟩ = some (.func (.func F) #[] caps) := fun W g => by rw [cell_of_row W bo 0 _ _ _ ((g.block bo (Array.getElem?_eq_some_iff.1 hbo).1 (fun e => n2 (Option.some.inj e))).trans hbo)]; rfl
  have hrow := fun b hb => h.rowLt (b := b) hb
  have hroom := h.room
  have hgood := h.good
  obtain ⟨w1, hw1⟩ : ∃ w1, w.setCell ⟨p, 4 + 4, none⟩ (.int .i64 ((S.steps : Int) + 1)) = w1 := ⟨_, rfl⟩
  rw [hw1] at s1 s2 s3 g1
  obtain ⟨_, _, _, _, _, q9, q10, qf⟩ := s1.cells
  have b1 := kbd w1 g1
  have b2 := kbo w1 g1
  have hw1' : w.setCell ⟨p, 8, none⟩ (.int .i64 ((S.steps : Int) + 1)) = w1 := hw1
  have arm := h1.arm
  have armLe := h1.armLe
  have hww : wrap64 ((S.steps : Int) + 1) = (S.steps : Int) + 1 := by unfold wrap64; omega
  rcases Nat.eq_zero_or_pos armed with rfl | hpos
  · have R1 : S.stepped.down = S.down ∧ DiskP w1 p S.stepped v := by
      have e1 : S.stepped.down = S.down := by
        unfold DS.stepped
        cases hd : S.down with
        | true => rfl
        | false => rw [← arm hd]; rfl
      refine ⟨e1, ⟨⟨fv, lv, lost, 0, P, s1.restate (S' := S.stepped) rfl rfl rfl rfl e1 fun hd => ?_, hkn⟩, hgood, s2, hroom⟩⟩
      rw [e1] at hd
      have := arm hd
      show 0 = if S.down = true then S.armed else S.armed - 1
      rw [hd, ← this]; rfl
    have HD := Lib.hid (hdo w1 R1.2 s3 g1)
    have HR := Lib.hid (show WentK w p v S.stepped w1 from ⟨v, R1.2, s3⟩)
    have HE := Lib.hid R1.1
    have Q0 := stops_zero (w := w1) q9
    obtain ⟨st, hst'⟩ : ∃ st, S.steps = st := ⟨_, rfl⟩
    rw [hst'] at k8 hw1' hww
    obtain ⟨dn, hdn⟩ : ∃ dn, S.down = dn := ⟨_, rfl⟩
    have HDN := Lib.hid hdn
    have q10' : w1.cell? ⟨p, 10, none⟩ = some (.bool dn) := by rw [q10]; exact congrArg _ (congrArg _ hdn)
    clear hkn q10 hdn R1 s1 s2 s3 h1 h hdo arm kbd kbo hbd hbo hp hrow hgood hroom hw1 hst' q9 qf kf
    have ef := eg caps w1
    clear eg
    cases dn
    · have HC := Lib.hid (HD.out (HE.out.trans HDN.out))
      go_enter Tryz.func107, Tryz.ntmps107
      go_wp2_with (first | (go_at_call 108; (with_reducible refine Q0.mono ?_); rintro e w' ⟨rfl, rfl⟩) | ((with_reducible refine HC.out.mono ?_); rintro e w' ⟨rfl, hR⟩))
      go_ret
      exact .inr ⟨HE.out.trans HDN.out, rfl, hR⟩
    · go_enter Tryz.func107, Tryz.ntmps107
      go_wp2_with (first | (go_at_call 108; (with_reducible refine Q0.mono ?_); rintro e w' ⟨rfl, rfl⟩))
      go_ret
      exact .inl ⟨HE.out.trans HDN.out, rfl, HR.out⟩
  · obtain ⟨a, rfl⟩ : ∃ a, armed = a + 1 := ⟨armed - 1, by omega⟩
    obtain ⟨r1, r2, r3⟩ := s1.number (S' := { S with steps := S.steps + 1, armed := a }) s2 5 (.int .i64 (a : Int)) (armed' := a) (u' := S.used) rfl rfl rfl (fun _ => rfl) (by omega)
    obtain ⟨w2, hw2⟩ : ∃ w2, w1.setCell ⟨p, 5 + 4, none⟩ (.int .i64 (a : Int)) = w2 := ⟨_, rfl⟩
    rw [hw2] at r1 r2 r3
    have g2 : w.grownBy w2 (some p) := by rw [← hw2]; exact Fld.grownBy_trans g1 (grown_setCell _ _ _ _)
    have t2 := s3.trans hrow r3
    obtain ⟨_, _, _, _, _, _, p10, pf⟩ := r1.cells
    have b3 := kbd w2 g2
    have b4 := kbo w2 g2
    have hw2' : w1.setCell ⟨p, 9, none⟩ (.int .i64 (a : Int)) = w2 := hw2
    rcases Nat.eq_zero_or_pos a with rfl | ha
    · obtain ⟨m1, m2, m3⟩ := r1.number (S' := { S with steps := S.steps + 1, armed := 0, down := true }) r2 6 (.bool true) (armed' := 0) (u' := S.used) rfl rfl rfl (fun _ => rfl) (by omega)
      obtain ⟨w3, hw3⟩ : ∃ w3, w2.setCell ⟨p, 6 + 4, none⟩ (.bool true) = w3 := ⟨_, rfl⟩
      rw [hw3] at m1 m2 m3
      have g3 : w.grownBy w3 (some p) := by rw [← hw3]; exact Fld.grownBy_trans g2 (grown_setCell _ _ _ _)
      have t3 := t2.trans hrow m3
      obtain ⟨_, _, _, _, _, _, o10, _⟩ := m1.cells
      have b5 := kbd w3 g3
      have hw3' : w2.setCell ⟨p, 10, none⟩ (.bool true) = w3 := hw3
      have R1 : S.stepped.down = true ∧ DiskP w3 p S.stepped v := by
        have e1 : S.stepped.down = true := by
          unfold DS.stepped
          cases hd : S.down with
          | true => rfl
          | false => rw [← arm hd]; rfl
        refine ⟨e1, ⟨⟨fv, lv, lost, 0, P, m1.restate (S' := S.stepped) rfl rfl rfl rfl e1 fun hd => ?_, hkn⟩, hgood, m2, hroom⟩⟩
        rw [e1] at hd
        cases hd
      have HR := Lib.hid (show WentK w p v S.stepped w3 from ⟨v, R1.2, t3⟩)
      have HE := Lib.hid R1.1
      have Q0 := stops_more (w := w1) q9 qf (by omega) true rfl
      rw [hw2'] at Q0
      have p10f := pf 10
      obtain ⟨st, hst'⟩ : ∃ st, S.steps = st := ⟨_, rfl⟩
      rw [hst'] at k8 hw1' hww
      have o10' : w3.cell? ⟨p, 10, none⟩ = some (.bool true) := o10
      have hpl2 : p < w2.heap.size := Nat.lt_of_lt_of_le hpl g2.size
      clear hkn o10 R1 s1 s2 s3 r1 r2 r3 m1 m2 m3 t2 t3 h1 h hdo arm kbd kbo hbd hbo hp hrow hgood hroom hw1 hw2 hw3 hst' q9 qf kf pf hw2' eg b4 b2 g1 g2 g3
      go_enter Tryz.func107, Tryz.ntmps107
      go_wp2_with (first | (go_at_call 108; (with_reducible refine Q0.mono ?_); rintro e w' ⟨rfl, rfl⟩))
      go_ret
      exact .inl ⟨HE.out, rfl, HR.out⟩
    · have R1 : S.stepped.down = S.down ∧ DiskP w2 p S.stepped v := by
        have e1 : S.stepped.down = S.down := by
          unfold DS.stepped
          cases hd : S.down with
          | true => rfl
          | false =>
            have := arm hd
            show (false || decide (S.armed = 1)) = false
            rw [← this]
            simp; omega
        refine ⟨e1, ⟨⟨fv, lv, lost, a, P, r1.restate (S' := S.stepped) rfl rfl rfl rfl e1 fun hd => ?_, hkn⟩, hgood, r2, hroom⟩⟩
        rw [e1] at hd
        have := arm hd
        show a = if S.down = true then S.armed else S.armed - 1
        rw [hd, ← this]; simp
      have HD := Lib.hid (hdo w2 R1.2 t2 g2)
      have HR := Lib.hid (show WentK w p v S.stepped w2 from ⟨v, R1.2, t2⟩)
      have HE := Lib.hid R1.1
      have Q0 := stops_more (w := w1) q9 qf (by omega) false (by simp; omega)
      rw [hw2'] at Q0
      obtain ⟨st, hst'⟩ : ∃ st, S.steps = st := ⟨_, rfl⟩
      rw [hst'] at k8 hw1' hww
      obtain ⟨dn, hdn⟩ : ∃ dn, S.down = dn := ⟨_, rfl⟩
      have HDN := Lib.hid hdn
      have p10' : w2.cell? ⟨p, 10, none⟩ = some (.bool dn) := by rw [p10]; exact congrArg _ (congrArg _ hdn)
      have ef := eg caps w2
      clear hkn q10 p10 hdn R1 s1 s2 s3 r1 r2 r3 t2 h1 h hdo arm kbd kbo hbd hbo hp hrow hgood hroom hw1 hw2 hst' q9 qf kf pf hw2' eg b2 g1 g2
      cases dn
      · have HC := Lib.hid (HD.out (HE.out.trans HDN.out))
        go_enter Tryz.func107, Tryz.ntmps107
        go_wp2_with (first | (go_at_call 108; (with_reducible refine Q0.mono ?_); rintro e w' ⟨rfl, rfl⟩) | ((with_reducible refine HC.out.mono ?_); rintro e w' ⟨rfl, hR⟩))
        go_ret
        exact .inr ⟨HE.out.trans HDN.out, rfl, hR⟩
      · go_enter Tryz.func107, Tryz.ntmps107
        go_wp2_with (first | (go_at_call 108; (with_reducible refine Q0.mono ?_); rintro e w' ⟨rfl, rfl⟩))
        go_ret
        exact .inl ⟨HE.out.trans HDN.out, rfl, HR.out⟩
end Go.Proofs.YtmmoilmfpiclgaaGreat
namespace Go.Proofs.YtmmoilmfpiclgaaGreat
open Go.RowKit Go.Shelf
open Fld (FS Names FAct actsOn foundN foundB findT withT withoutT GoodN Rising mayB nam nameMax FolderS FolderIn ARow)

theorem nil_map_files (w : World) (m : Option Nat) : (binOp .eql 74 (.map m) (.map none)).run Tryz.prog w = .ok (.bool m.isNone) w := run_eql_map_nil_sl w 74 3 79 m Tryz.underlying74
theorem store_map (w : World) (a : Addr) (m : Option Nat) : (store a (.map m)).run Tryz.prog w = stored Tryz.prog w a (.map m) .plain := run_store Tryz.prog w a _ _ rfl

theorem free_of {w : World} {p : Nat} {cs : Array Value} {T : TypeId} (h : w.heap[p]? = some (.cells cs T (0, 0))) (o : Nat) : w.frozen? ⟨p, o, none⟩ = false := by simp [World.frozen?, h]
theorem grown_drew {w w' : World} {r : Option Nat} (h : w.grownBy w' r) : w.grownBy w'.drew r := ⟨h.os, h.tape, h.output, h.size, h.block⟩

set_option maxHeartbeats 2000000 in
set_option maxRecDepth 100000 in
theorem put_some {w : World} {p b l u n m N : Nat} {D : List UInt8} {A : List Do} {M I : Nat → Prop} {P : Nat → Option Nat} {cs : Array Value} (hf : ∀ W, w.grownBy W (some m) → FileAt W b D A M I) (hl : (reads D A).length = l) (hu : u + l ≤ 1000000000000000)
    (hp : w.heap[p]? = some (.cells cs 77 (0, 0))) (c7 : cs[7]? = some (.int .i64 (u : Int))) (c4 : cs[4]? = some (.map (some m))) (h : HasP w m P) (hN : ∀ x b, P x = some b → x < N) (hN2 : N ≤ 1000000) (hn : n ≤ 1000000) :
    Calls Tryz.prog 39 #[.pointer (some ⟨p, 0, none⟩), .int .i64 (n : Int), .pointer (some ⟨b, 0, none⟩)] w fun e w' => e = .returned (.tuple #[]) ∧ ∃ w3, w.grownBy w3 (some m) ∧ HasP w3 m (pset P n b) ∧ w' = w3.setCell ⟨p, 7, none⟩ (.int .i64 ((u : Int) + (l : Int))) := by
  have hmp : some p ≠ some m := fun e => by
    obtain ⟨es, clock, hm⟩ := h.mem
    cases e
    rw [hm] at hp; cases hp
  have HK : Hid (∀ W, w.grownBy W (some m) → W.cell? ⟨p, 7, none⟩ = some (.int .i64 (u : Int)) ∧ W.frozen? ⟨p, 7, none⟩ = false ∧ p < W.heap.size ∧ Calls Tryz.prog 91 #[.pointer (some ⟨b, 0, none⟩)] W fun e w' => e = .returned (.int .i64 (l : Nat)) ∧ W = w') := Lib.hid fun W g => by
    have hp' := (g.block p (Array.getElem?_eq_some_iff.1 hp).1 hmp).trans hp
    exact ⟨by rw [cell_of_row W p 7 _ _ _ hp']; exact c7, free_of hp' 7, (Array.getElem?_eq_some_iff.1 hp').1, hl ▸ len_any (hf W g)⟩
  have k4 : w.cell? ⟨p, 4, none⟩ = some (.map (some m)) := by rw [cell_of_row w p 4 _ _ _ hp]; exact c4
  have hpl := (Array.getElem?_eq_some_iff.1 hp).1
  have nm := nil_map_files w (some m)
  have hsum : IntKind.i64.wrap ((u : Int) + (l : Int)) = (u : Int) + (l : Int) := IntWalk.i64_in _ (by omega)
  have H := Lib.hid h
  clear h hf hp c7 c4 hmp hl
  go_enter Tryz.func39, Tryz.ntmps39
  go_upto_region 3 with (at_mapUpdate; refine wpList_put_file _ rfl _ _ _ rfl m P n b N rfl rfl rfl H.out hN hN2 (by omega) ?_; intro w3 h3 g3; have H3 := Lib.hid h3; have G3 := Lib.hid g3; obtain ⟨k7, f7, hl3, kq⟩ := HK.out w3.drew (grown_drew g3); have KQ := Lib.hid kq; clear h3 g3 kq)
  go_region_with ((go_at_call 91; (with_reducible refine Calls.mono KQ.out ?_); rintro e w' ⟨rfl, rfl⟩))
  all_goals
    have g4 := grown_drew G3.out
    have h4 : HasP w3.drew m (pset P n b) := H3.out.same rfl
    go_wp2
    exact bodyPost_end (v := .tuple #[]) (by simp [results, Tryz.results39, go_sem]) rfl ⟨rfl, w3.drew, g4, h4, rfl⟩

set_option maxHeartbeats 2000000 in
set_option maxRecDepth 100000 in
theorem put_none {w : World} {p b l u n : Nat} {D : List UInt8} {A : List Do} {M I : Nat → Prop} {cs : Array Value} (hf : FileAt w b D A M I) (hfp : ∀ g, M g ∨ I g → g ≠ p) (hl : (reads D A).length = l) (hu : u + l ≤ 1000000000000000)
    (hp : w.heap[p]? = some (.cells cs 77 (0, 0))) (c7 : cs[7]? = some (.int .i64 (u : Int))) (c4 : cs[4]? = some (.map none)) (hn : n ≤ 1000000) :
    Calls Tryz.prog 39 #[.pointer (some ⟨p, 0, none⟩), .int .i64 (n : Int), .pointer (some ⟨b, 0, none⟩)] w fun e w' => e = .returned (.tuple #[]) ∧ ∃ w3, ((w.alloc (.map #[] 0)).setCell ⟨p, 4, none⟩ (.map (some w.heap.size))).grownBy w3 (some w.heap.size) ∧ HasP w3 w.heap.size (pset (fun _ => none) n b) ∧ w' = w3.setCell ⟨p, 7, none⟩ (.int .i64 ((u : Int) + (l : Int))) := by
  have hpl := (Array.getElem?_eq_some_iff.1 hp).1
  obtain ⟨w2, hw2⟩ : ∃ w2, (w.alloc (.map #[] 0)).setCell ⟨p, 4, none⟩ (.map (some w.heap.size)) = w2 := ⟨_, rfl⟩
  rw [hw2]
  have hp1 : (w.alloc (.map #[] 0)).heap[p]? = some (.cells cs 77 (0, 0)) := ((World.grownBy_alloc w (.map #[] 0) none).block p hpl (by simp)).trans hp
  have hm1 : HasP (w.alloc (.map #[] 0)) w.heap.size (fun _ => none) := hasP_made w
  have hp2 : w2.heap[p]? = some (.cells (cs.setIfInBounds 4 (.map (some w.heap.size))) 77 (0, 0)) := by rw [← hw2]; exact cells_setCell hp1 4 _
  have hm2 : HasP w2 w.heap.size (fun _ => none) := hm1.same (by rw [← hw2]; exact Fld.heap_setCell_ne (by omega))
  have g2 : w.grownBy w2 (some p) := by rw [← hw2]; exact Fld.grownBy_trans (World.grownBy_alloc w (.map #[] 0) (some p)) (grown_setCell _ _ _ _)
  have h4s : 4 < cs.size := (Array.getElem?_eq_some_iff.1 c4).1
  have k4' : w2.cell? ⟨p, 4, none⟩ = some (.map (some w.heap.size)) := by rw [cell_of_row w2 p 4 _ _ _ hp2]; simp [h4s]
  have k7' : (cs.setIfInBounds 4 (.map (some w.heap.size)))[7]? = some (.int .i64 (u : Int)) := by rw [Array.getElem?_setIfInBounds_ne (by omega)]; exact c7
  have HK : Hid (∀ W, w2.grownBy W (some w.heap.size) → W.cell? ⟨p, 7, none⟩ = some (.int .i64 (u : Int)) ∧ W.frozen? ⟨p, 7, none⟩ = false ∧ p < W.heap.size ∧ Calls Tryz.prog 91 #[.pointer (some ⟨b, 0, none⟩)] W fun e w' => e = .returned (.int .i64 (l : Nat)) ∧ W = w') := Lib.hid fun W g => by
    have hp' := (g.block p (Array.getElem?_eq_some_iff.1 hp2).1 (fun e => by have := Option.some.inj e; omega)).trans hp2
    have hfW : FileAt W b D A M I := hf.same (fun k hk => (g.block k (Nat.lt_of_lt_of_le (hf.mem k hk) g2.size) (fun e => by have := Option.some.inj e; have := hf.mem k hk; omega)).trans (g2.block k (hf.mem k hk) (fun e => hfp k hk (Option.some.inj e)))) (Nat.le_trans g2.size g.size)
    exact ⟨by rw [cell_of_row W p 7 _ _ _ hp']; exact k7', free_of hp' 7, (Array.getElem?_eq_some_iff.1 hp').1, hl ▸ len_any hfW⟩
  have k4 : w.cell? ⟨p, 4, none⟩ = some (.map none) := by rw [cell_of_row w p 4 _ _ _ hp]; exact c4
  have f4 := free_of hp1 4
  have hpl1 := (Array.getElem?_eq_some_iff.1 hp1).1
  have nm := nil_map_files w none
  have hmm := @run_makeMap Tryz.prog
  have hsm := store_map (w.alloc (.map #[] 0)) ⟨p, 4, none⟩ (some w.heap.size)
  have hsum : IntKind.i64.wrap ((u : Int) + (l : Int)) = (u : Int) + (l : Int) := IntWalk.i64_in _ (by omega)
  have H := Lib.hid hm2
  clear hf hp c7 c4 hl hp1 hm1 hp2 hm2 g2 h4s k7' hfp
  go_enter Tryz.func39, Tryz.ntmps39
  go_upto_region 3 with (at_mapUpdate; (try rw [hw2]); refine wpList_put_file _ rfl _ _ _ rfl w.heap.size (fun _ => none) n b 0 rfl rfl rfl H.out (fun x b h => by cases h) (by omega) (by omega) ?_; intro w3 h3 g3; have H3 := Lib.hid h3; have G3 := Lib.hid g3; obtain ⟨k7, f7, hl3, kq⟩ := HK.out w3.drew (grown_drew g3); have KQ := Lib.hid kq; clear h3 g3 kq)
  clear hw2 k4' k4 f4 hpl1 nm hmm hsm
  go_region_with ((go_at_call 91; (with_reducible refine Calls.mono KQ.out ?_); rintro e w' ⟨rfl, rfl⟩))
  all_goals
    have g4 := grown_drew G3.out
    have h4 : HasP w3.drew w.heap.size (pset (fun _ => none) n b) := H3.out.same rfl
    go_wp2
    exact bodyPost_end (v := .tuple #[]) (by simp [results, Tryz.results39, go_sem]) rfl ⟨rfl, w3.drew, g4, h4, rfl⟩

/-- The map turns. -/
theorem DiskIn.mapped {w w' : World} {p u m : Nat} {S : DS} {v : DV} {lv : Value} {lost : List Nat} {armed : Nat} {P P' : Nat → Option Nat} (h : DiskIn w p S u v (.map (some m)) lv lost armed P) (hp : Parts w v.M v.I) (hg : w.grownBy w' (some m)) (h3 : HasP w' m P')
    (hP' : ∀ n b, P' n = some b → FileAt w b (S.file n).D (S.file n).A (v.M (n + 3)) (v.I (n + 3)) ∧ 1 ≤ n ∧ n ≤ S.fold.n) : DiskIn w' p S u v (.map (some m)) lv lost armed P' ∧ Parts w' v.M v.I ∧ v.To w w' v := by
  have hm1 := h.mapM m rfl
  have hk : Kept (v.M 1) w w' := Kept.grown hg (fun g hg => by cases hg; exact hm1)
  have same : ∀ k g, k ≠ 1 → v.M k g ∨ v.I k g → w'.heap[g]? = w.heap[g]? := fun k g hk' hg => hp.kept hk hk' g hg
  refine ⟨⟨@FolderIn.same (fin _) _ _ _ _ _ _ _ _ _ _ h.fold (fun g hg => same 0 g (by omega) hg) hg.size, h.arm, h.armLe, .inr ⟨m, rfl, h3⟩, h.mapM, owns_same h.row fun g hg => same 2 g (by omega) (.inl (h.rowM g hg)), h.rowM, fun n b hn => ?_⟩, hp.grow hg.size, h.to_same rfl rfl (fun _ h => .inl h) (fun _ h => .inl h) hk.all fun g hg => same 0 g (by omega) (h.rowIn g hg)⟩
  obtain ⟨q1, q2⟩ := hP' n b hn
  exact ⟨q1.same (fun g hg' => same (n + 3) g (by omega) hg') hg.size, q2⟩

theorem DiskIn.heap {w : World} {p u : Nat} {S : DS} {v : DV} {fv lv : Value} {lost : List Nat} {armed : Nat} {P : Nat → Option Nat} (h : DiskIn w p S u v fv lv lost armed P) : ∃ cs : Array Value, w.heap[p]? = some (.cells cs 77 (0, 0)) ∧ cs[4]? = some fv ∧ cs[5]? = some lv ∧ cs[7]? = some (.int .i64 (u : Int)) := by
  obtain ⟨a, b, c, d, h1, _⟩ := four_of h.fold
  exact ⟨_, h1, rfl, rfl, rfl⟩

/-- A file that the map lacks is put into it. -/
theorem put_any {w : World} {p u n b : Nat} {S : DS} {v : DV} {fv lv : Value} {lost : List Nat} {armed : Nat} {P : Nat → Option Nat} (h : DiskIn w p S u v fv lv lost armed P) (hp : Parts w v.M v.I) (hP : P n = none) (hN : S.fold.n ≤ 100000) (h1 : 1 ≤ n) (h2 : n ≤ S.fold.n)
    (hf : FileAt w b (S.file n).D (S.file n).A (v.M (n + 3)) (v.I (n + 3))) (hu : u + (S.file n).R.length ≤ 1000000000000000) :
    Calls Tryz.prog 39 #[.pointer (some ⟨p, 0, none⟩), .int .i64 (n : Int), .pointer (some ⟨b, 0, none⟩)] w fun e w' => e = .returned (.tuple #[]) ∧ ∃ m v', DiskIn w' p S (u + (S.file n).R.length) v' (.map (some m)) lv lost armed (pset P n b) ∧ Parts w' v'.M v'.I ∧ v.To w w' v' := by
  obtain ⟨cs, q0, q4, q5, q7⟩ := h.heap
  have hrow := h.rowLt
  have pf : ∀ {w' : World} {v' : DV} {P' : Nat → Option Nat}, (∀ x c, P' x = some c → FileAt w' c (S.file x).D (S.file x).A (v'.M (x + 3)) (v'.I (x + 3)) ∧ 1 ≤ x ∧ x ≤ S.fold.n) → FileAt w' b (S.file n).D (S.file n).A (v'.M (n + 3)) (v'.I (n + 3)) → ∀ x c, pset P' n b x = some c → FileAt w' c (S.file x).D (S.file x).A (v'.M (x + 3)) (v'.I (x + 3)) ∧ 1 ≤ x ∧ x ≤ S.fold.n := fun {w' v' P'} h5 h6 x c hx => by
    by_cases e : x = n
    · subst e
      rw [pset_same] at hx
      cases hx
      exact ⟨h6, h1, h2⟩
    · rw [pset_other _ _ e] at hx
      exact h5 x c hx
  have fin' : ∀ {w2 w3 : World} {v' : DV} {m : Nat} {P' : Nat → Option Nat}, DiskIn w2 p S u v' (.map (some m)) lv lost armed P' → Parts w2 v'.M v'.I → FileAt w2 b (S.file n).D (S.file n).A (v'.M (n + 3)) (v'.I (n + 3)) → w2.grownBy w3 (some m) → HasP w3 m (pset P' n b) →
      ∃ w'', w'' = w3.setCell ⟨p, 7, none⟩ (.int .i64 ((u : Int) + ((S.file n).R.length : Int))) ∧ DiskIn w'' p S (u + (S.file n).R.length) v' (.map (some m)) lv lost armed (pset P' n b) ∧ Parts w'' v'.M v'.I ∧ v'.To w2 w'' v' := fun {w2 w3 v' m P'} a1 a2 a3 a4 a5 => by
    obtain ⟨b1, b2, b3⟩ := a1.mapped a2 a4 a5 (pf a1.files a3)
    obtain ⟨c1, c2, c3⟩ := b1.number (S' := S) b2 3 (.int .i64 ((u : Int) + ((S.file n).R.length : Int))) (armed' := armed) (u' := u + (S.file n).R.length) rfl rfl rfl a1.arm a1.armLe
    exact ⟨_, rfl, c1, c2, b3.trans a1.rowLt c3⟩
  rcases h.map with ⟨rfl, rfl⟩ | ⟨m, rfl, hm⟩
  · have hfp : ∀ g, v.M (n + 3) g ∨ v.I (n + 3) g → g ≠ p := fun g hg e => by
      subst e
      rcases hg with hg | hg
      · exact hp.apart (n + 3) 0 g (by omega) hg h.p_mem.1
      · exact hp.read (n + 3) 0 g hg h.p_mem.1
    refine (put_none hf hfp rfl hu q0 q7 q4 (by omega)).mono ?_
    rintro e w' ⟨rfl, w3, g3, h3, rfl⟩
    obtain ⟨v', d1, d2, d3, d4, d5, d6⟩ := h.born hp 1 (by omega) (fun _ => rfl) (fun e => by omega) (fun x e => by omega) (below_alloc' (o := .map #[] 0) (Below.refl _ w)) (M' := fun g => g = w.heap.size) (I' := fun _ => False) (fun g hg => by omega) (fun g hg => hg.elim) (fun g hg => by
      rcases hg with rfl | hg
      · simp
      · exact hg.elim) (fun g hg => hg.elim)
    have hf1 : FileAt (w.alloc (.map #[] 0)) b (S.file n).D (S.file n).A (v'.M (n + 3)) (v'.I (n + 3)) := by
      rw [(d6 (n + 3) (by omega)).1, (d6 (n + 3) (by omega)).2]
      exact hf.below (below_alloc' (Below.refl _ w))
    have hm1 : HasP (w.alloc (.map #[] 0)) w.heap.size (fun _ => none) := hasP_made w
    obtain ⟨e1, e2, e3⟩ := d1.cell (S' := S) d2 0 (.map (some w.heap.size)) (fv' := .map (some w.heap.size)) (lv' := lv) (lost' := lost) (P' := fun _ => none) (armed' := armed) (u' := u) rfl rfl rfl d1.arm d1.armLe (.inr ⟨_, rfl, hm1⟩) (fun b hb => by cases hb; rw [d4]) d1.row d1.rowM (fun x c hx => by cases hx)
    have hf2 : FileAt ((w.alloc (.map #[] 0)).setCell ⟨p, 0 + 4, none⟩ (.map (some w.heap.size))) b (S.file n).D (S.file n).A (v'.M (n + 3)) (v'.I (n + 3)) := hf1.same (fun g hg => Fld.heap_setCell_ne (by
      rw [(d6 (n + 3) (by omega)).1, (d6 (n + 3) (by omega)).2] at hg
      exact hfp g hg)) (by simp)
    obtain ⟨w'', rfl, f1, f2, f3⟩ := fin' e1 e2 hf2 g3 h3
    exact ⟨rfl, _, v', f1, f2, (d3.trans hrow e3).trans hrow f3⟩
  · have hNs : ∀ x c, P x = some c → x < 100001 := fun x c hx => by have := (h.files x c hx).2.2; omega
    have hmf : ∀ W, w.grownBy W (some m) → FileAt W b (S.file n).D (S.file n).A (v.M (n + 3)) (v.I (n + 3)) := fun W g => hf.same (fun k hk => g.block k (hf.mem k hk) (fun e => by
      have := Option.some.inj e
      subst this
      rcases hk with hk | hk
      · exact hp.apart (n + 3) 1 k (by omega) hk (h.mapM k rfl)
      · exact hp.read (n + 3) 1 k hk (h.mapM k rfl))) g.size
    refine (put_some hmf rfl hu q0 q7 q4 hm hNs (by omega) (by omega)).mono ?_
    rintro e w' ⟨rfl, w3, g3, h3, rfl⟩
    obtain ⟨w'', rfl, f1, f2, f3⟩ := fin' h hp hf g3 h3
    exact ⟨rfl, m, v, f1, f2, f3⟩
end Go.Proofs.YtmmoilmfpiclgaaGreat
namespace Go.Proofs.YtmmoilmfpiclgaaGreat
open Go.RowKit Go.Shelf
open Fld (FS Names FAct actsOn foundN foundB findT withT withoutT GoodN Rising mayB nam nameMax FolderS FolderIn ARow)

set_option maxHeartbeats 1000000 in
set_option maxRecDepth 100000 in
theorem asked_any (w : World) (p F : Nat) (caps : Array Value) :
    Calls Tryz.prog 48 #[.pointer (some ⟨p, 0, none⟩), .func (.func F) #[] caps] w fun e w' => ∃ bd bo, e = .returned (.func (.func 107) #[] #[.pointer (some ⟨bd, 0, none⟩), .pointer (some ⟨bo, 0, none⟩)]) ∧
      w'.heap[bd]? = some (.cells #[.pointer (some ⟨p, 0, none⟩)] 27 (0, 0)) ∧ w'.heap[bo]? = some (.cells #[.func (.func F) #[] caps] 53 (0, 0)) ∧ Below w.heap.size w w' := by
  go_enter Tryz.func48, Tryz.ntmps48
  go_wp2
  go_ret
  refine ⟨_, _, rfl, ?_, ?_, ?_⟩
  · exact (Below.heap_alloc _ _ _ (by simp)).trans (World.alloc_heap_new w _)
  · have h := World.alloc_heap_new (w.alloc (.cells #[.pointer (some ⟨p, 0, none⟩)] 27)) (.cells #[.func (.func F) #[] caps] 53)
    rwa [World.size_alloc] at h
  · exact ((Below.refl _ w).alloc (Nat.le_refl _) _).alloc (by simp) _

theorem asked_done {w : World} {p : Nat} {v : DV} {S : DS} {g : DS → DS × Nat} {e : Ending} {w' : World} (h : Asked w p v S (((g S.stepped).2 : Nat) : Int) (fun w' => WentK w p v (g S.stepped).1 w') e w') :
    e = .returned (.int .i64 (((S.doing g).2 : Nat) : Int)) ∧ WentK w p v (S.doing g).1 w' := by
  unfold DS.doing
  rcases h with ⟨h1, rfl, h2⟩ | ⟨h1, rfl, h2⟩
  · rw [if_pos h1]; exact ⟨rfl, h2⟩
  · rw [if_neg (by rw [h1]; exact Bool.false_ne_true)]; exact ⟨rfl, h2⟩

/-- The closure that asks, and does. -/
theorem asked_go {w w2 : World} {p : Nat} {S : DS} {v : DV} (h : DiskP w p S v) (hb : Below w.heap.size w w2) (hst : S.steps ≤ 100000) {bd bo F : Nat} {caps : Array Value} (eg : ∀ args w, (callFunc F args).run Tryz.prog w = .ok (.enter F args) w)
    (hbd : w2.heap[bd]? = some (.cells #[.pointer (some ⟨p, 0, none⟩)] 27 (0, 0))) (hbo : w2.heap[bo]? = some (.cells #[.func (.func F) #[] caps] 53 (0, 0))) (g : DS → DS × Nat)
    (hdo : ∀ W, DiskP W p S.stepped v → w2.grownBy W (some p) → Calls Tryz.prog F caps W fun e w' => e = .returned (.int .i64 (((g S.stepped).2 : Nat) : Int)) ∧ WentK W p v (g S.stepped).1 w') :
    Calls Tryz.prog 107 #[.pointer (some ⟨bd, 0, none⟩), .pointer (some ⟨bo, 0, none⟩)] w2 fun e w' => e = .returned (.int .i64 (((S.doing g).2 : Nat) : Int)) ∧ WentK w p v (S.doing g).1 w' := by
  have h2 := h.below hb
  refine (asked1_any h2 hst eg hbd hbo (((g S.stepped).2 : Nat) : Int) (fun w' => WentK w2 p v (g S.stepped).1 w') fun W hW ht hg _ => ?_).mono fun e w' hA => ?_
  · refine (hdo W hW hg).mono fun e w' ⟨he, hw⟩ => ⟨he, ?_⟩
    obtain ⟨v2, k1, k2⟩ := hw
    exact ⟨v2, k1, ht.trans (fun b hb => h2.rowLt hb) k2⟩
  · obtain ⟨k1, k2⟩ := asked_done hA
    exact ⟨k1, WentK.after h hb k2⟩
theorem box_grown {w W : World} {p b : Nat} {cs cs' : Array Value} {T T' : TypeId} (g : w.grownBy W (some p)) (hb : w.heap[b]? = some (.cells cs T (0, 0))) (hp : w.heap[p]? = some (.cells cs' T' (0, 0))) (hne : T ≠ T') : W.heap[b]? = some (.cells cs T (0, 0)) :=
  (g.block b (Array.getElem?_eq_some_iff.1 hb).1 (fun e => Fld.two_types hb hp hne (Option.some.inj e))).trans hb

/-- The same, told of the method's world: what it laid ahead of the call stands there still. -/
theorem method_go {w w1 : World} {p : Nat} {S : DS} {v : DV} (h : DiskP w p S v) (b1 : Below w.heap.size w w1) (hst : S.steps ≤ 100000) {F : Nat} {caps : Array Value} (eg : ∀ args w, (callFunc F args).run Tryz.prog w = .ok (.enter F args) w) (g : DS → DS × Nat)
    (hdo : ∀ W, DiskP W p S.stepped v → (∀ (b : Nat) (cs : Array Value) (T : TypeId), w1.heap[b]? = some (.cells cs T (0, 0)) → T ≠ 77 → W.heap[b]? = some (.cells cs T (0, 0))) → Calls Tryz.prog F caps W fun e w' => e = .returned (.int .i64 (((g S.stepped).2 : Nat) : Int)) ∧ WentK W p v (g S.stepped).1 w') :
    ∀ w2 bd bo, Below w1.heap.size w1 w2 → w2.heap[bd]? = some (.cells #[.pointer (some ⟨p, 0, none⟩)] 27 (0, 0)) → w2.heap[bo]? = some (.cells #[.func (.func F) #[] caps] 53 (0, 0)) →
    Calls Tryz.prog 107 #[.pointer (some ⟨bd, 0, none⟩), .pointer (some ⟨bo, 0, none⟩)] w2 fun e w' => e = .returned (.int .i64 (((S.doing g).2 : Nat) : Int)) ∧ WentK w p v (S.doing g).1 w' := fun w2 bd bo b2 e1 e2 => by
  have b2' : Below w.heap.size w1 w2 := b2.mono b1.size
  obtain ⟨cs', hp⟩ := (h.below (b1.trans b2')).cellP
  refine asked_go h (b1.trans b2') hst eg e1 e2 g fun W hW hg => hdo W hW fun b cs T hb hT => ?_
  exact box_grown hg ((b2.block b (Array.getElem?_eq_some_iff.1 hb).1).trans hb) hp hT
theorem heap_two (w : World) (o o' : Obj) : ((w.alloc o).alloc o').heap[w.heap.size]? = some o ∧ ((w.alloc o).alloc o').heap[w.heap.size + 1]? = some o' := by
  refine ⟨(Below.heap_alloc _ _ _ (by simp)).trans (World.alloc_heap_new w _), ?_⟩
  have h := World.alloc_heap_new (w.alloc o) o'
  rwa [World.size_alloc] at h
theorem below_duo (w : World) (o o' : Obj) : Below w.heap.size w ((w.alloc o).alloc o') := ((Below.refl _ w).alloc (Nat.le_refl _) _).alloc (by simp) _
theorem heap_three (w : World) (o o' o2 : Obj) : (((w.alloc o).alloc o').alloc o2).heap[w.heap.size]? = some o ∧ (((w.alloc o).alloc o').alloc o2).heap[w.heap.size + 1]? = some o' ∧ (((w.alloc o).alloc o').alloc o2).heap[w.heap.size + 1 + 1]? = some o2 := by
  obtain ⟨h1, h2⟩ := heap_two w o o'
  refine ⟨(Below.heap_alloc _ _ _ (by simp; omega)).trans h1, (Below.heap_alloc _ _ _ (by simp)).trans h2, ?_⟩
  have h := World.alloc_heap_new ((w.alloc o).alloc o') o2
  rwa [World.size_alloc, World.size_alloc] at h
theorem below_three (w : World) (o o' o2 : Obj) : Below w.heap.size w (((w.alloc o).alloc o').alloc o2) := (below_duo w o o').alloc (by simp; omega) _
theorem DiskP.fresh {w : World} {p : Nat} {S : DS} {v : DV} (h : DiskP w p S v) {n : Nat} (hn : w.heap.size ≤ n) : ∀ k, ¬ v.M k n := fun k hk => by
  have := h.parts.mem k n (.inl hk)
  omega
end Go.Proofs.YtmmoilmfpiclgaaGreat

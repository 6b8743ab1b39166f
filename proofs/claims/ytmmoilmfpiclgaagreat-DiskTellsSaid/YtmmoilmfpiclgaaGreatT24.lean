/-
  A disk in plain words: a folder, files by their numbers, a quota, steps; what its methods make of that. A disk in plain words: which numbers are known to it, how many bytes are used behind each method, how great it is. A disk's steps in plain words: what each one leaves of it.
-/
import Derived.Test.YtmmoilmfpiclgaaGreatT10
import Derived.Test.YtmmoilmfpiclgaaGreatT21
import Derived.Test.YtmmoilmfpiclgaaGreatT23
set_option linter.unusedVariables false
set_option linter.unusedSimpArgs false
namespace Go.Proofs.YtmmoilmfpiclgaaGreat
open Go.RowKit Go.Shelf
open Fld (FS Names FAct actsOn foundN foundB findT withT withoutT lesserT greaterT GoodN Rising mayB nam)

structure FileS where
  D : List UInt8
  A : List Do
/-- What is read of it. -/
def FileS.R (f : FileS) : List UInt8 := reads f.D f.A
def FileS.heft (f : FileS) : Nat := bulk f.D f.A
def FileS.none : FileS := ⟨[], []⟩
def FileS.stay (f : FileS) (d q : Int) : FileS := ⟨stays f.D f.A d q, []⟩

def upd (f : Nat → FileS) (n : Nat) (x : FileS) : Nat → FileS := fun m => if m = n then x else f m
theorem upd_same (f : Nat → FileS) (n : Nat) (x : FileS) : upd f n x n = x := if_pos rfl
theorem upd_other (f : Nat → FileS) {n m : Nat} (x : FileS) (h : m ≠ n) : upd f n x m = f m := if_neg h

structure DS where
  fold : FS
  file : Nat → FileS
  room : Nat
  steps : Nat
  armed : Nat
  down : Bool

def DS.new (q : Nat) : DS := ⟨FS.new, fun _ => FileS.none, q, 0, 0, false⟩
def DS.there (S : DS) : Names := S.fold.there
def sumN (f : List UInt8 × Nat → Nat) (L : Names) : Nat := (L.map f).sum
def DS.used (S : DS) : Nat := sumN (fun p => (S.file p.2).R.length) S.fold.there
/-- A step: it may be the one that is not done. -/
def DS.stepped (S : DS) : DS := { S with steps := S.steps + 1, armed := if S.down then S.armed else S.armed - 1, down := S.down || decide (S.armed = 1) }
def DS.doing (S : DS) (g : DS → DS × Nat) : DS × Nat := if S.stepped.down = true then (S.stepped, 13) else g S.stepped
def DS.create0 (S : DS) (s : ByteArray) : DS × Nat :=
  ({ S with fold := (S.fold.create s).1, file := if (S.fold.create s).2.2 = 0 then upd S.file (S.fold.create s).2.1 FileS.none else S.file }, (S.fold.create s).2.2)
def DS.create (S : DS) (s : ByteArray) : DS × Nat := S.doing fun S => S.create0 s
def DS.change0 (S : DS) (s : ByteArray) (g : FileS → FileS × Nat) : DS × Nat :=
  if foundB S.fold.there s.data.toList = true then ({ S with file := upd S.file (foundN S.fold.there s.data.toList) (g (S.file (foundN S.fold.there s.data.toList))).1 }, (g (S.file (foundN S.fold.there s.data.toList))).2) else (S, 9)
def DS.change (S : DS) (s : ByteArray) (g : FileS → FileS × Nat) : DS × Nat := S.doing fun S => S.change0 s g
def appG (room : Nat) (b : List UInt8) (f : FileS) : FileS × Nat := (⟨f.D, appT f.A (b.take room)⟩, if b.length ≤ room then 0 else 10)
def cutG (k : Int) (f : FileS) : FileS × Nat := (⟨f.D, cutT f.R f.A k⟩, (cutE f.R k).toNat)
def syncG (f : FileS) : FileS × Nat := (⟨f.R, []⟩, 0)
def DS.append (S : DS) (s : ByteArray) (b : List UInt8) : DS × Nat := S.change s (appG (S.room - S.used) b)
def DS.truncate (S : DS) (s : ByteArray) (k : Int) : DS × Nat := S.change s (cutG k)
def DS.sync (S : DS) (s : ByteArray) : DS × Nat := S.change s syncG
def DS.syncDir0 (S : DS) : DS × Nat := ({ S with fold := S.fold.sync }, 0)
def DS.syncDir (S : DS) : DS × Nat := S.doing DS.syncDir0
def DS.rename0 (S : DS) (a b : ByteArray) : DS × Nat := ({ S with fold := (S.fold.rename a b).1 }, (S.fold.rename a b).2)
def DS.rename (S : DS) (a b : ByteArray) : DS × Nat := S.doing fun S => S.rename0 a b
def DS.remove0 (S : DS) (s : ByteArray) : DS × Nat := ({ S with fold := (S.fold.remove s).1 }, (S.fold.remove s).2)
def DS.remove (S : DS) (s : ByteArray) : DS × Nat := S.doing fun S => S.remove0 s
def DS.arm (S : DS) (n : Int) : DS := { S with armed := n.toNat }
def num (l : List Nat) (i : Nat) : Nat := l.getD i 0
/-- The files behind a restart, of the first k names. -/
def restFile (T : Names) (l : List Nat) (f : Nat → FileS) : Nat → Nat → FileS
  | 0 => f
  | k + 1 => upd (restFile T l f k) (nam T k).2 ((restFile T l f k (nam T k).2).stay (num l (2 * k + 1)) (num l (2 * k + 2)))
def DS.restart (S : DS) (l : List Nat) : DS :=
  ⟨S.fold.survive (num l 0), restFile (S.fold.survive (num l 0)).there l S.file (S.fold.survive (num l 0)).there.length, S.room, S.steps, 0, false⟩
def DS.readAt (S : DS) (s : ByteArray) (a n : Int) : List UInt8 × Int :=
  if S.down = true then ([], 13) else if foundB S.fold.there s.data.toList = true then (readT (S.file (foundN S.fold.there s.data.toList)).R a n, readE (S.file (foundN S.fold.there s.data.toList)).R a n) else ([], 9)
def DS.size (S : DS) (s : ByteArray) : Nat × Nat :=
  if S.down = true then (0, 13) else if foundB S.fold.there s.data.toList = true then ((S.file (foundN S.fold.there s.data.toList)).R.length, 0) else (0, 9)
/-- What is there, as names with what is read. -/
def DS.files (S : DS) : List (List UInt8 × List UInt8) := if S.down = true then [] else S.fold.there.map fun p => (p.1, (S.file p.2).R)
def DS.usedD (S : DS) : Nat := if S.down = true then 0 else S.used

/-! sums -/
theorem sumN_nil (f : List UInt8 × Nat → Nat) : sumN f [] = 0 := rfl
theorem sumN_cons (f : List UInt8 × Nat → Nat) (p : List UInt8 × Nat) (L : Names) : sumN f (p :: L) = f p + sumN f L := rfl
theorem sumN_append (f : List UInt8 × Nat → Nat) (L K : Names) : sumN f (L ++ K) = sumN f L + sumN f K := by unfold sumN; rw [List.map_append, List.sum_append]
theorem sumN_congr {f g : List UInt8 × Nat → Nat} : ∀ {L : Names}, (∀ p ∈ L, f p = g p) → sumN f L = sumN g L
  | [], _ => rfl
  | p :: L, h => by rw [sumN_cons, sumN_cons, h p (by simp), sumN_congr fun q hq => h q (by simp [hq])]
theorem sumN_le {f : List UInt8 × Nat → Nat} {b : Nat} (h : ∀ p, f p ≤ b) : ∀ L : Names, sumN f L ≤ L.length * b
  | [] => by simp [sumN_nil]
  | p :: L => by
    have h1 := sumN_le h L
    have h2 := h p
    rw [sumN_cons, List.length_cons, Nat.add_mul, Nat.one_mul]
    omega
theorem sumN_split (f : List UInt8 × Nat → Nat) (k : List UInt8) : ∀ L : Names, sumN f (lesserT L k) + sumN f (greaterT L k) = sumN f (withoutT L k)
  | [] => rfl
  | p :: L => by
    have ih := sumN_split f k L
    unfold lesserT greaterT withoutT at ih ⊢
    rw [List.filter_cons, List.filter_cons, List.filter_cons]
    by_cases h1 : p.1 < k
    · have h2 : ¬ k < p.1 := fun h => Fld.lt_irrefl' _ (Fld.lt_trans' h1 h)
      have h3 : p.1 ≠ k := fun e => by rw [e] at h1; exact Fld.lt_irrefl' _ h1
      rw [if_pos (decide_eq_true h1), if_neg (by simpa using h2), if_pos (decide_eq_true h3), sumN_cons, sumN_cons]
      omega
    · by_cases h3 : p.1 = k
      · have h2 : ¬ k < p.1 := fun h => by rw [h3] at h; exact Fld.lt_irrefl' _ h
        rw [if_neg (by simpa using h1), if_neg (by simpa using h2), if_neg (by simpa using h3)]
        exact ih
      · have h2 : k < p.1 := by
          rcases Fld.lt_total' _ _ h3 with h | h
          · exact absurd h h1
          · exact h
        rw [if_neg (by simpa using h1), if_pos (decide_eq_true h2), if_pos (decide_eq_true h3), sumN_cons, sumN_cons]
        omega
theorem sumN_with (f : List UInt8 × Nat → Nat) (L : Names) (k : List UInt8) (n : Nat) : sumN f (withT L k n) = f (k, n) + sumN f (withoutT L k) := by
  unfold withT
  rw [sumN_append, sumN_cons, ← sumN_split f k L]
  omega
theorem sumN_without {f : List UInt8 × Nat → Nat} {k : List UInt8} {n : Nat} : ∀ {L : Names}, Rising L → (k, n) ∈ L → sumN f (withoutT L k) + f (k, n) = sumN f L
  | [], _, h => by cases h
  | p :: L, hr, h => by
    obtain ⟨h1, h2⟩ := List.pairwise_cons.1 hr
    have key : ∀ q ∈ L, p.1 ≠ q.1 := fun q hq e => Fld.lt_irrefl' q.1 (by have := h1 q hq; rwa [e] at this)
    unfold withoutT
    rw [List.filter_cons]
    rcases List.mem_cons.1 h with rfl | hm
    · have hL : (L.filter fun q => decide (q.1 ≠ k)) = L := List.filter_eq_self.2 (fun q hq => decide_eq_true (fun e => key q hq e.symm))
      rw [if_neg (by simp), sumN_cons, hL]
      omega
    · have := sumN_without (f := f) h2 hm
      unfold withoutT at this
      rw [if_pos (decide_eq_true (key _ hm)), sumN_cons, sumN_cons]
      omega
theorem without_none {k : List UInt8} {L : Names} (h : ∀ p ∈ L, p.1 ≠ k) : withoutT L k = L := List.filter_eq_self.2 fun p hp => decide_eq_true (h p hp)

/-- One file turns into another one. -/
theorem used_upd {L : Names} {n : Nat} (h : GoodN L n) {k : List UInt8} {m : Nat} (hm : (k, m) ∈ L) (f : Nat → FileS) (x : FileS) :
    sumN (fun p => (upd f m x p.2).R.length) L + (f m).R.length = sumN (fun p => (f p.2).R.length) L + x.R.length := by
  have e1 : sumN (fun p => (upd f m x p.2).R.length) (withoutT L k) + (upd f m x m).R.length = sumN (fun p => (upd f m x p.2).R.length) L := sumN_without (f := fun p => (upd f m x p.2).R.length) h.rising hm
  have e2 : sumN (fun p => (f p.2).R.length) (withoutT L k) + (f m).R.length = sumN (fun p => (f p.2).R.length) L := sumN_without (f := fun p => (f p.2).R.length) h.rising hm
  rw [upd_same] at e1
  have e3 : sumN (fun p => (upd f m x p.2).R.length) (withoutT L k) = sumN (fun p => (f p.2).R.length) (withoutT L k) := sumN_congr fun p hp => by
    obtain ⟨h1, h2⟩ := Fld.mem_without.1 hp
    rw [upd_other f x fun e => h2 (congrArg Prod.fst (h.one p h1 _ hm e))]
  omega
end Go.Proofs.YtmmoilmfpiclgaaGreat
namespace Go.Proofs.YtmmoilmfpiclgaaGreat
open Go.RowKit Go.Shelf
open Fld (FS Names FAct actsOn foundN foundB findT withT withoutT lesserT greaterT GoodN Rising mayB nam)

/-- All numbers that may be there, behind whichever acts survive, have P. -/
def Known (F : FS) (P : Nat → Prop) : Prop := ∀ i, ∀ p ∈ actsOn F.L0 (F.A.take i), P p.2
theorem Known.mono {F : FS} {P Q : Nat → Prop} (h : Known F P) (hq : ∀ n, P n → Q n) : Known F Q := fun i p hp => hq _ (h i p hp)
theorem Known.there {F : FS} {P : Nat → Prop} (h : Known F P) : ∀ p ∈ F.there, P p.2 := by
  have := h F.A.length
  rwa [List.take_length] at this
theorem known_new (P : Nat → Prop) : Known FS.new P := fun i p hp => by
  have : actsOn ([] : Names) (([] : List FAct).take i) = [] := by rw [List.take_nil]; rfl
  unfold FS.new at hp
  rw [this] at hp
  cases hp
theorem known_snoc {L0 : Names} {A : List FAct} {n m : Nat} {x : FAct} {P : Nat → Prop} (h : Known ⟨L0, A, n⟩ P) (hx : ∀ p ∈ x.on (actsOn L0 A), P p.2) : Known ⟨L0, A ++ [x], m⟩ P := fun i => by
  show ∀ p ∈ actsOn L0 ((A ++ [x]).take i), P p.2
  by_cases hi : i ≤ A.length
  · rw [List.take_append_of_le_length hi]
    exact h i
  · rw [List.take_of_length_le (by rw [List.length_append]; simp; omega), Fld.actsOn_snoc]
    exact hx
theorem known_flat {L : Names} {n : Nat} {P : Nat → Prop} (h : ∀ p ∈ L, P p.2) : Known ⟨L, [], n⟩ P := fun i => by
  show ∀ p ∈ actsOn L (([] : List FAct).take i), P p.2
  rw [List.take_nil]
  exact h

theorem create_ways (F : FS) (s : ByteArray) : (F.create s = (F, 0, 2)) ∨ (F.create s = (F, 0, 8)) ∨
    (mayB s = true ∧ foundB F.there s.data.toList = false ∧ F.create s = (⟨F.L0, F.A ++ [.create s (F.n + 1)], F.n + 1⟩, F.n + 1, 0) ∧ (F.create s).1.there = withT F.there s.data.toList (F.n + 1)) := by
  by_cases h1 : mayB s = false
  · left; unfold FS.create; rw [if_pos h1]
  · by_cases h2 : foundB F.there s.data.toList = true
    · right; left; unfold FS.create; rw [if_neg h1, if_pos h2]
    · have e : F.create s = (⟨F.L0, F.A ++ [.create s (F.n + 1)], F.n + 1⟩, F.n + 1, 0) := by unfold FS.create; rw [if_neg h1, if_neg h2]
      refine .inr (.inr ⟨by simpa using h1, by simpa using h2, e, ?_⟩)
      rw [e]
      exact Fld.actsOn_snoc _ _ _
theorem rename_ways (F : FS) (a b : ByteArray) : (F.rename a b = (F, 2)) ∨ (F.rename a b = (F, 9)) ∨
    (mayB b = true ∧ foundB F.there a.data.toList = true ∧ F.rename a b = (⟨F.L0, F.A ++ [.rename a b (foundN F.there a.data.toList)], F.n⟩, 0) ∧ (F.rename a b).1.there = withT (withoutT F.there a.data.toList) b.data.toList (foundN F.there a.data.toList)) := by
  by_cases h1 : mayB b = false
  · left; unfold FS.rename; rw [if_pos h1]
  · by_cases h2 : foundB F.there a.data.toList = false
    · right; left; unfold FS.rename; rw [if_neg h1, if_pos h2]
    · have e : F.rename a b = (⟨F.L0, F.A ++ [.rename a b (foundN F.there a.data.toList)], F.n⟩, 0) := by unfold FS.rename; rw [if_neg h1, if_neg h2]
      refine .inr (.inr ⟨by simpa using h1, by simpa using h2, e, ?_⟩)
      rw [e]
      exact Fld.actsOn_snoc _ _ _
theorem remove_ways (F : FS) (s : ByteArray) : (foundB F.there s.data.toList = false ∧ F.remove s = (F, 9)) ∨
    (foundB F.there s.data.toList = true ∧ F.remove s = (⟨F.L0, F.A ++ [.remove s], F.n⟩, 0) ∧ (F.remove s).1.there = withoutT F.there s.data.toList) := by
  by_cases h2 : foundB F.there s.data.toList = false
  · left; exact ⟨h2, by unfold FS.remove; rw [if_pos h2]⟩
  · have e : F.remove s = (⟨F.L0, F.A ++ [.remove s], F.n⟩, 0) := by unfold FS.remove; rw [if_neg h2]
    refine .inr ⟨by simpa using h2, e, ?_⟩
    rw [e]
    exact Fld.actsOn_snoc _ _ _

theorem known_create {F : FS} {P : Nat → Prop} (h : Known F P) (s : ByteArray) : Known (F.create s).1 fun n => P n ∨ ((F.create s).2.2 = 0 ∧ n = (F.create s).2.1) := by
  rcases create_ways F s with e | e | ⟨_, _, e, et⟩
  · rw [e]; exact h.mono fun n hn => .inl hn
  · rw [e]; exact h.mono fun n hn => .inl hn
  · rw [e] at et ⊢
    refine known_snoc (n := F.n) (h.mono fun n hn => .inl hn) fun p hp => ?_
    rcases Fld.mem_with.1 hp with rfl | ⟨hp, _⟩
    · exact .inr ⟨rfl, rfl⟩
    · exact .inl (h.there p hp)
theorem known_remove {F : FS} {P : Nat → Prop} (h : Known F P) (s : ByteArray) : Known (F.remove s).1 P := by
  rcases remove_ways F s with ⟨_, e⟩ | ⟨_, e, et⟩
  · rw [e]; exact h
  · rw [e]
    exact known_snoc (n := F.n) h fun p hp => h.there p (Fld.mem_without.1 hp).1
theorem known_rename {F : FS} {P : Nat → Prop} (h : Known F P) (hr : Rising F.there) (a b : ByteArray) : Known (F.rename a b).1 P := by
  rcases rename_ways F a b with e | e | ⟨_, hf, e, et⟩
  · rw [e]; exact h
  · rw [e]; exact h
  · rw [e]
    refine known_snoc (n := F.n) h fun p hp => ?_
    rcases Fld.mem_with.1 hp with rfl | ⟨hp, _⟩
    · exact h.there (a.data.toList, foundN F.there a.data.toList) (Fld.foundB_true hf hr)
    · exact h.there p (Fld.mem_without.1 hp).1
theorem known_sync {F : FS} {P : Nat → Prop} (h : Known F P) : Known F.sync P := known_flat h.there
theorem known_survive {F : FS} {P : Nat → Prop} (h : Known F P) (k : Int) : Known (F.survive k) P := known_flat (h _)

/-! how many bytes are used -/
def lenOf (f : Nat → FileS) : List UInt8 × Nat → Nat := fun p => (f p.2).R.length

theorem used_create {F : FS} (hg : F.good) (f : Nat → FileS) (s : ByteArray) (h : (F.create s).2.2 = 0) :
    sumN (lenOf (upd f (F.create s).2.1 FileS.none)) (F.create s).1.there = sumN (lenOf f) F.there := by
  rcases create_ways F s with e | e | ⟨_, hf, e, et⟩
  · rw [e] at h; cases h
  · rw [e] at h; cases h
  · rw [et, e, sumN_with, without_none (Fld.foundB_false hf)]
    have : lenOf (upd f (F.n + 1) FileS.none) (s.data.toList, F.n + 1) = 0 := by
      unfold lenOf
      simp only [upd_same]
      rfl
    show lenOf (upd f (F.n + 1) FileS.none) (s.data.toList, F.n + 1) + _ = _
    rw [this, Nat.zero_add]
    refine sumN_congr fun p hp => ?_
    have := (hg.there.range p hp).2
    unfold lenOf
    rw [upd_other _ _ (by show p.2 ≠ F.n + 1; omega)]
theorem used_remove {F : FS} (hg : F.good) (f : Nat → FileS) (s : ByteArray) (h : (F.remove s).2 = 0) :
    sumN (lenOf f) (F.remove s).1.there + (f (foundN F.there s.data.toList)).R.length = sumN (lenOf f) F.there := by
  rcases remove_ways F s with ⟨_, e⟩ | ⟨hf, e, et⟩
  · rw [e] at h; cases h
  · rw [et]
    exact sumN_without (f := lenOf f) hg.there.rising (Fld.foundB_true hf hg.there.rising)
theorem used_rename_over {F : FS} (hg : F.good) (f : Nat → FileS) (a b : ByteArray) (h : (F.rename a b).2 = 0) (hb : foundB F.there b.data.toList = true) (hab : a ≠ b) :
    sumN (lenOf f) (F.rename a b).1.there + (f (foundN F.there b.data.toList)).R.length = sumN (lenOf f) F.there := by
  rcases rename_ways F a b with e | e | ⟨_, hf, e, et⟩
  · rw [e] at h; cases h
  · rw [e] at h; cases h
  · have hne : a.data.toList ≠ b.data.toList := fun e => hab (ba_same e)
    have hr := hg.there.rising
    have ha := Fld.foundB_true hf hr
    have hb' := Fld.foundB_true hb hr
    rw [et, sumN_with]
    have e1 := sumN_without (f := lenOf f) hr ha
    have e2 := sumN_without (f := lenOf f) (hr.without a.data.toList) (Fld.mem_without.2 ⟨hb', fun e => hne e.symm⟩)
    have l1 : lenOf f (a.data.toList, foundN F.there a.data.toList) = lenOf f (b.data.toList, foundN F.there a.data.toList) := rfl
    have l2 : lenOf f (b.data.toList, foundN F.there b.data.toList) = (f (foundN F.there b.data.toList)).R.length := rfl
    omega
theorem used_rename_new {F : FS} (hg : F.good) (f : Nat → FileS) (a b : ByteArray) (h : (F.rename a b).2 = 0) (hb : foundB F.there b.data.toList = false ∨ a = b) :
    sumN (lenOf f) (F.rename a b).1.there = sumN (lenOf f) F.there := by
  rcases rename_ways F a b with e | e | ⟨_, hf, e, et⟩
  · rw [e] at h; cases h
  · rw [e] at h; cases h
  · have hr := hg.there.rising
    have ha := Fld.foundB_true hf hr
    have hn : ∀ p ∈ withoutT F.there a.data.toList, p.1 ≠ b.data.toList := fun p hp => by
      obtain ⟨h1, h2⟩ := Fld.mem_without.1 hp
      rcases hb with hb | rfl
      · exact Fld.foundB_false hb p h1
      · exact h2
    rw [et, sumN_with, without_none hn]
    have e1 := sumN_without (f := lenOf f) hr ha
    have l1 : lenOf f (a.data.toList, foundN F.there a.data.toList) = lenOf f (b.data.toList, foundN F.there a.data.toList) := rfl
    omega

/-! which numbers are there no more -/
theorem gone_create {F : FS} (s : ByteArray) {x : Nat} (hx : x ≤ F.n) (h : ∀ p ∈ F.there, p.2 ≠ x) : ∀ p ∈ (F.create s).1.there, p.2 ≠ x := by
  rcases create_ways F s with e | e | ⟨_, _, e, et⟩
  · rw [e]; exact h
  · rw [e]; exact h
  · rw [et]
    intro p hp
    rcases Fld.mem_with.1 hp with rfl | ⟨hp, _⟩
    · show F.n + 1 ≠ x; omega
    · exact h p hp
theorem gone_remove {F : FS} (s : ByteArray) {x : Nat} (h : ∀ p ∈ F.there, p.2 ≠ x) : ∀ p ∈ (F.remove s).1.there, p.2 ≠ x := by
  rcases remove_ways F s with ⟨_, e⟩ | ⟨_, _, et⟩
  · rw [e]; exact h
  · rw [et]; exact fun p hp => h p (Fld.mem_without.1 hp).1
theorem gone_removed {F : FS} (hg : F.good) (s : ByteArray) (h : (F.remove s).2 = 0) : ∀ p ∈ (F.remove s).1.there, p.2 ≠ foundN F.there s.data.toList := by
  rcases remove_ways F s with ⟨_, e⟩ | ⟨hf, _, et⟩
  · rw [e] at h; cases h
  · rw [et]
    intro p hp e
    obtain ⟨h1, h2⟩ := Fld.mem_without.1 hp
    exact h2 (congrArg Prod.fst (hg.there.one p h1 _ (Fld.foundB_true hf hg.there.rising) e))
theorem gone_rename {F : FS} (hg : F.good) (a b : ByteArray) {x : Nat} (h : ∀ p ∈ F.there, p.2 ≠ x) : ∀ p ∈ (F.rename a b).1.there, p.2 ≠ x := by
  rcases rename_ways F a b with e | e | ⟨_, hf, _, et⟩
  · rw [e]; exact h
  · rw [e]; exact h
  · rw [et]
    intro p hp
    rcases Fld.mem_with.1 hp with rfl | ⟨hp, _⟩
    · exact h (a.data.toList, foundN F.there a.data.toList) (Fld.foundB_true hf hg.there.rising)
    · exact h p (Fld.mem_without.1 hp).1
theorem gone_over {F : FS} (hg : F.good) (a b : ByteArray) (h : (F.rename a b).2 = 0) (hb : foundB F.there b.data.toList = true) (hab : a ≠ b) : ∀ p ∈ (F.rename a b).1.there, p.2 ≠ foundN F.there b.data.toList := by
  rcases rename_ways F a b with e | e | ⟨_, hf, _, et⟩
  · rw [e] at h; cases h
  · rw [e] at h; cases h
  · have hne : a.data.toList ≠ b.data.toList := fun e => hab (ba_same e)
    have ha := Fld.foundB_true hf hg.there.rising
    have hb' := Fld.foundB_true hb hg.there.rising
    rw [et]
    intro p hp e
    rcases Fld.mem_with.1 hp with rfl | ⟨hp, h2⟩
    · exact hne (congrArg Prod.fst (hg.there.one _ ha _ hb' e))
    · exact h2 (congrArg Prod.fst (hg.there.one p (Fld.mem_without.1 hp).1 _ hb' e))
theorem there_sync (F : FS) : F.sync.there = F.there := rfl

/-! how great it is -/
structure DS.Light (S : DS) (a b : Nat) : Prop where
  fold : S.fold.weight ≤ a
  acts : ∀ n, (S.file n).A.length ≤ a
  heft : ∀ n, (S.file n).heft ≤ b
  steps : S.steps ≤ a
theorem DS.Light.mono {S : DS} {a b c d : Nat} (h : S.Light a b) (h1 : a ≤ c) (h2 : b ≤ d) : S.Light c d :=
  ⟨Nat.le_trans h.fold h1, fun n => Nat.le_trans (h.acts n) h1, fun n => Nat.le_trans (h.heft n) h2, Nat.le_trans h.steps h1⟩
theorem DS.Light.used {S : DS} {a b : Nat} (h : S.Light a b) : S.used ≤ a * b := by
  refine Nat.le_trans (sumN_le (b := b) (fun p => Nat.le_trans (reads_length _ _) (h.heft p.2)) _) (Nat.mul_le_mul_right _ ?_)
  exact Nat.le_trans (Fld.FS.there_length S.fold) h.fold
theorem light_stepped {S : DS} {a b : Nat} (h : S.Light a b) : S.stepped.Light (a + 1) b := ⟨Nat.le_succ_of_le h.fold, fun n => Nat.le_succ_of_le (h.acts n), h.heft, Nat.succ_le_succ h.steps⟩
end Go.Proofs.YtmmoilmfpiclgaaGreat
namespace Go.Proofs.YtmmoilmfpiclgaaGreat
open Go.RowKit Go.Shelf
open Fld (FS Names FAct actsOn foundN foundB findT withT withoutT lesserT greaterT GoodN Rising mayB nam)

theorem create0_bad {S : DS} {s : ByteArray} (h : (S.fold.create s).2.2 ≠ 0) : S.create0 s = (S, (S.fold.create s).2.2) := by
  rcases create_ways S.fold s with e | e | ⟨_, _, e, _⟩
  · unfold DS.create0; rw [e]; rfl
  · unfold DS.create0; rw [e]; rfl
  · rw [e] at h; exact absurd rfl h
theorem create0_ok {S : DS} {s : ByteArray} (h : (S.fold.create s).2.2 = 0) : S.create0 s = ({ S with fold := (S.fold.create s).1, file := upd S.file (S.fold.create s).2.1 FileS.none }, 0) := by
  unfold DS.create0; rw [h]; rfl
theorem create_n {F : FS} {s : ByteArray} (h : (F.create s).2.2 = 0) : (F.create s).2.1 = F.n + 1 ∧ (F.create s).1.n = F.n + 1 := by
  rcases create_ways F s with e | e | ⟨_, _, e, _⟩
  · rw [e] at h; cases h
  · rw [e] at h; cases h
  · rw [e]; exact ⟨rfl, rfl⟩
theorem create_A (F : FS) (s : ByteArray) : F.A.length ≤ (F.create s).1.A.length ∧ F.n ≤ (F.create s).1.n := by
  rcases create_ways F s with e | e | ⟨_, _, e, _⟩
  · rw [e]; exact ⟨Nat.le_refl _, Nat.le_refl _⟩
  · rw [e]; exact ⟨Nat.le_refl _, Nat.le_refl _⟩
  · rw [e]; exact ⟨by show F.A.length ≤ (F.A ++ [_]).length; rw [List.length_append]; exact Nat.le_add_right _ _, Nat.le_succ _⟩
theorem rename_bad {F : FS} {a b : ByteArray} (h : (F.rename a b).2 ≠ 0) : (F.rename a b).1 = F := by
  rcases rename_ways F a b with e | e | ⟨_, _, e, _⟩
  · rw [e]
  · rw [e]
  · rw [e] at h; exact absurd rfl h
theorem remove_bad {F : FS} {s : ByteArray} (h : (F.remove s).2 ≠ 0) : (F.remove s).1 = F := by
  rcases remove_ways F s with ⟨_, e⟩ | ⟨_, e, _⟩
  · rw [e]
  · rw [e] at h; exact absurd rfl h
theorem rename_A (F : FS) (a b : ByteArray) (h : (F.rename a b).2 = 0) : (F.rename a b).1.A.length = F.A.length + 1 ∧ (F.rename a b).1.n = F.n := by
  rcases rename_ways F a b with e | e | ⟨_, _, e, _⟩
  · rw [e] at h; cases h
  · rw [e] at h; cases h
  · rw [e]; exact ⟨by show (F.A ++ [_]).length = _; rw [List.length_append]; rfl, rfl⟩
theorem remove_A (F : FS) (s : ByteArray) (h : (F.remove s).2 = 0) : (F.remove s).1.A.length = F.A.length + 1 ∧ (F.remove s).1.n = F.n := by
  rcases remove_ways F s with ⟨_, e⟩ | ⟨_, e, _⟩
  · rw [e] at h; cases h
  · rw [e]; exact ⟨by show (F.A ++ [_]).length = _; rw [List.length_append]; rfl, rfl⟩
theorem remove_found {F : FS} {s : ByteArray} (h : (F.remove s).2 = 0) : foundB F.there s.data.toList = true := by
  rcases remove_ways F s with ⟨_, e⟩ | ⟨hf, _, _⟩
  · rw [e] at h; cases h
  · exact hf

theorem used_eq (S : DS) : S.used = sumN (lenOf S.file) S.fold.there := rfl
theorem create0_used {S : DS} (hg : S.fold.good) (s : ByteArray) (h : (S.fold.create s).2.2 = 0) : ({ S with fold := (S.fold.create s).1, file := upd S.file (S.fold.create s).2.1 FileS.none } : DS).used = S.used := used_create hg S.file s h
theorem change_used {S : DS} (hg : S.fold.good) {s : ByteArray} (hf : foundB S.fold.there s.data.toList = true) (x : FileS) :
    ({ S with file := upd S.file (foundN S.fold.there s.data.toList) x } : DS).used + (S.file (foundN S.fold.there s.data.toList)).R.length = S.used + x.R.length :=
  used_upd hg.there (Fld.foundB_true hf hg.there.rising) S.file x
theorem used_ge {S : DS} (hg : S.fold.good) {s : ByteArray} (hf : foundB S.fold.there s.data.toList = true) : (S.file (foundN S.fold.there s.data.toList)).R.length ≤ S.used := by
  have := sumN_without (f := lenOf S.file) hg.there.rising (Fld.foundB_true hf hg.there.rising)
  rw [used_eq, ← this]
  exact Nat.le_add_left _ _

/-! how great it is -/
theorem none_heft : FileS.none.heft = 0 := rfl
theorem DS.Light.upd {S : DS} {a b : Nat} (h : S.Light a b) (n : Nat) {x : FileS} (h1 : x.A.length ≤ a) (h2 : x.heft ≤ b) : ({ S with file := upd S.file n x } : DS).Light a b :=
  ⟨h.fold, fun m => by
    show (Go.Proofs.YtmmoilmfpiclgaaGreat.upd S.file n x m).A.length ≤ a
    unfold Go.Proofs.YtmmoilmfpiclgaaGreat.upd
    split
    · exact h1
    · exact h.acts m, fun m => by
    show (Go.Proofs.YtmmoilmfpiclgaaGreat.upd S.file n x m).heft ≤ b
    unfold Go.Proofs.YtmmoilmfpiclgaaGreat.upd
    split
    · exact h2
    · exact h.heft m, h.steps⟩
theorem light_fold {S : DS} {a b : Nat} (h : S.Light a b) {F : FS} (hF : F.weight ≤ a) : ({ S with fold := F } : DS).Light a b := ⟨hF, h.acts, h.heft, h.steps⟩
theorem light_create0 {S : DS} {a b : Nat} (h : S.Light a b) (s : ByteArray) : (S.create0 s).1.Light (a + 2) b := by
  have h2 : S.Light (a + 2) b := h.mono (by omega) (Nat.le_refl _)
  by_cases e : (S.fold.create s).2.2 = 0
  · rw [create0_ok e]
    exact (light_fold (F := (S.fold.create s).1) h2 (by have := Fld.weight_create S.fold s; have := h.fold; omega)).upd _ (Nat.zero_le _) (Nat.zero_le _)
  · rw [create0_bad e]; exact h2
theorem light_rename0 {S : DS} {a b : Nat} (h : S.Light a b) (s t : ByteArray) : (S.rename0 s t).1.Light (a + 2) b :=
  light_fold (h.mono (by omega) (Nat.le_refl _)) (by have := Fld.weight_rename S.fold s t; have := h.fold; omega)
theorem light_remove0 {S : DS} {a b : Nat} (h : S.Light a b) (s : ByteArray) : (S.remove0 s).1.Light (a + 2) b :=
  light_fold (h.mono (by omega) (Nat.le_refl _)) (by have := Fld.weight_remove S.fold s; have := h.fold; omega)
theorem light_syncDir0 {S : DS} {a b : Nat} (h : S.Light a b) : S.syncDir0.1.Light (a + 2) b :=
  light_fold (h.mono (by omega) (Nat.le_refl _)) (by have := Fld.weight_sync S.fold; have := h.fold; omega)
theorem light_change0 {S : DS} {a b c d : Nat} (h : S.Light a b) (s : ByteArray) (g : FileS → FileS × Nat) (hac : a ≤ c) (hbd : b ≤ d) (hg : ∀ f : FileS, f.A.length ≤ a → f.heft ≤ b → (g f).1.A.length ≤ c ∧ (g f).1.heft ≤ d) : (S.change0 s g).1.Light c d := by
  unfold DS.change0
  split
  · obtain ⟨h1, h2⟩ := hg _ (h.acts _) (h.heft (foundN S.fold.there s.data.toList))
    exact (h.mono hac hbd).upd _ h1 h2
  · exact h.mono hac hbd
theorem appG_light {room a b m : Nat} (x : List UInt8) (hx : min x.length room ≤ m) (f : FileS) (h1 : f.A.length ≤ a) (h2 : f.heft ≤ b) : (appG room x f).1.A.length ≤ a + 2 ∧ (appG room x f).1.heft ≤ b + m := by
  have hl : (x.take room).length ≤ m := by rw [List.length_take]; omega
  unfold appG appT FileS.heft
  dsimp only
  unfold FileS.heft at h2
  split
  · exact ⟨by omega, by omega⟩
  · rw [bulk_app, List.length_append]
    exact ⟨by simp; omega, by omega⟩
theorem cutG_light {a b : Nat} (k : Int) (f : FileS) (h1 : f.A.length ≤ a) (h2 : f.heft ≤ b) : (cutG k f).1.A.length ≤ a + 2 ∧ (cutG k f).1.heft ≤ b := by
  unfold cutG cutT FileS.heft
  dsimp only
  unfold FileS.heft at h2
  split
  · rw [bulk_cut, List.length_append]
    exact ⟨by simp; omega, h2⟩
  · exact ⟨by omega, h2⟩
theorem syncG_light {a b : Nat} (f : FileS) (h2 : f.heft ≤ b) : (syncG f).1.A.length ≤ a ∧ (syncG f).1.heft ≤ b := by
  refine ⟨Nat.zero_le _, ?_⟩
  show bulk f.R [] ≤ b
  rw [bulk_nil]
  exact Nat.le_trans (reads_length _ _) h2
theorem light_doing {S : DS} {a b c d : Nat} (h : S.Light a b) {g : DS → DS × Nat} (hac : a + 1 ≤ c) (hbd : b ≤ d) (hg : S.stepped.Light (a + 1) b → (g S.stepped).1.Light c d) : (S.doing g).1.Light c d := by
  unfold DS.doing
  split
  · exact (light_stepped h).mono hac hbd
  · exact hg (light_stepped h)
theorem light_create {S : DS} {a b : Nat} (h : S.Light a b) (s : ByteArray) : (S.create s).1.Light (a + 3) b := light_doing h (by omega) (Nat.le_refl _) fun h => light_create0 h s
theorem light_rename {S : DS} {a b : Nat} (h : S.Light a b) (s t : ByteArray) : (S.rename s t).1.Light (a + 3) b := light_doing h (by omega) (Nat.le_refl _) fun h => light_rename0 h s t
theorem light_remove {S : DS} {a b : Nat} (h : S.Light a b) (s : ByteArray) : (S.remove s).1.Light (a + 3) b := light_doing h (by omega) (Nat.le_refl _) fun h => light_remove0 h s
theorem light_syncDir {S : DS} {a b : Nat} (h : S.Light a b) : S.syncDir.1.Light (a + 3) b := light_doing h (by omega) (Nat.le_refl _) fun h => light_syncDir0 h
theorem light_append {S : DS} {a b m : Nat} (h : S.Light a b) (s : ByteArray) (x : List UInt8) (hx : min x.length S.room ≤ m) : (S.append s x).1.Light (a + 3) (b + m) :=
  light_doing h (by omega) (Nat.le_add_right _ _) fun h => light_change0 h s _ (by omega) (Nat.le_add_right _ _) fun f h1 h2 => appG_light x (by show min x.length (S.room - _) ≤ m; omega) f h1 h2
theorem light_truncate {S : DS} {a b : Nat} (h : S.Light a b) (s : ByteArray) (k : Int) : (S.truncate s k).1.Light (a + 3) b :=
  light_doing h (by omega) (Nat.le_refl _) fun h => light_change0 h s _ (by omega) (Nat.le_refl _) fun f h1 h2 => cutG_light k f h1 h2
theorem light_sync {S : DS} {a b : Nat} (h : S.Light a b) (s : ByteArray) : (S.sync s).1.Light (a + 3) b :=
  light_doing h (by omega) (Nat.le_refl _) fun h => light_change0 h s _ (by omega) (Nat.le_refl _) fun f h1 h2 => ⟨Nat.le_trans (syncG_light (a := 0) f h2).1 (Nat.zero_le _), (syncG_light (a := 0) f h2).2⟩
theorem DS.Light.arm {S : DS} {a b : Nat} (h : S.Light a b) (n : Int) : (S.arm n).Light a b := ⟨h.fold, h.acts, h.heft, h.steps⟩
end Go.Proofs.YtmmoilmfpiclgaaGreat

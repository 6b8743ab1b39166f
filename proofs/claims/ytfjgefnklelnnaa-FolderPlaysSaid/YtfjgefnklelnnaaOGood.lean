/-
  What holds of every folder: its names rise, each with a number of its own, from 1 to the greatest one.
-/
import Derived.Test.YtfjgefnklelnnaaONamesF
namespace Go.Proofs.Ytfjgefnklelnnaa
open Go.RowKit Go.Shelf

structure GoodN (L : Names) (n : Nat) : Prop where
  rising : Rising L
  range : ∀ p ∈ L, 1 ≤ p.2 ∧ p.2 ≤ n
  one : ∀ p ∈ L, ∀ q ∈ L, p.2 = q.2 → p = q
  short : ∀ p ∈ L, p.1.length ≤ 64

theorem GoodN.mono {L : Names} {n m : Nat} (h : GoodN L n) (hm : n ≤ m) : GoodN L m := ⟨h.rising, fun p hp => ⟨(h.range p hp).1, Nat.le_trans (h.range p hp).2 hm⟩, h.one, h.short⟩
theorem GoodN.nil (n : Nat) : GoodN [] n := ⟨Rising.nil, (fun p hp => by cases hp), (fun p hp => by cases hp), (fun p hp => by cases hp)⟩
theorem GoodN.without {L : Names} {n : Nat} (h : GoodN L n) (k : List UInt8) : GoodN (withoutT L k) n := ⟨h.rising.without k, fun p hp => h.range p (mem_without.1 hp).1, fun p hp q hq => h.one p (mem_without.1 hp).1 q (mem_without.1 hq).1, fun p hp => h.short p (mem_without.1 hp).1⟩
theorem GoodN.with {L : Names} {n : Nat} (h : GoodN L n) (k : List UInt8) (m : Nat) (h1 : 1 ≤ m ∧ m ≤ n) (h2 : ∀ p ∈ L, p.1 ≠ k → p.2 ≠ m) (h3 : k.length ≤ 64) : GoodN (withT L k m) n := by
  refine ⟨h.rising.with k m, fun p hp => ?_, fun p hp q hq e => ?_, fun p hp => ?_⟩
  · rcases mem_with.1 hp with rfl | ⟨hp, _⟩
    · exact h1
    · exact h.range p hp
  · rcases mem_with.1 hp with rfl | ⟨hp, hpk⟩
    · rcases mem_with.1 hq with rfl | ⟨hq, hqk⟩
      · rfl
      · exact absurd e.symm (h2 q hq hqk)
    · rcases mem_with.1 hq with rfl | ⟨hq, hqk⟩
      · exact absurd e (h2 p hp hpk)
      · exact h.one p hp q hq e
  · rcases mem_with.1 hp with rfl | ⟨hp, _⟩
    · exact h3
    · exact h.short p hp

def FS.good (S : FS) : Prop := ∀ i, GoodN (actsOn S.L0 (S.A.take i)) S.n
theorem FS.good.there {S : FS} (h : S.good) : GoodN S.there S.n := by
  have := h S.A.length
  rwa [List.take_length] at this
theorem good_new : FS.new.good := fun i => by
  show GoodN (actsOn [] (([] : List FAct).take i)) 0
  rw [List.take_nil]
  exact GoodN.nil 0

theorem good_snoc {L0 : Names} {A : List FAct} {n m : Nat} {x : FAct} (h : FS.good ⟨L0, A, n⟩) (hm : n ≤ m) (hx : GoodN (x.on (actsOn L0 A)) m) : FS.good ⟨L0, A ++ [x], m⟩ := fun i => by
  show GoodN (actsOn L0 ((A ++ [x]).take i)) m
  by_cases hi : i ≤ A.length
  · rw [List.take_append_of_le_length hi]
    exact (h i).mono hm
  · rw [List.take_of_length_le (by rw [List.length_append]; simp; omega), actsOn_snoc]
    exact hx

theorem foundB_true {L : Names} {k : List UInt8} (h : foundB L k = true) (hr : Rising L) : (k, foundN L k) ∈ L := by
  unfold foundB at h
  unfold foundN
  cases hf : findT L k with
  | none => rw [hf] at h; cases h
  | some m => exact (find_some hr).1 hf
theorem foundB_false {L : Names} {k : List UInt8} (h : foundB L k = false) : ∀ p ∈ L, p.1 ≠ k := by
  unfold foundB at h
  cases hf : findT L k with
  | none => exact find_none.1 hf
  | some m => rw [hf] at h; cases h
theorem foundN_none {L : Names} {k : List UInt8} (h : foundB L k = false) : foundN L k = 0 := by
  unfold foundB at h
  unfold foundN
  cases hf : findT L k with
  | none => rfl
  | some m => rw [hf] at h; cases h
theorem GoodN.found {L : Names} {n : Nat} (h : GoodN L n) (k : List UInt8) : foundN L k ≤ n := by
  cases hb : foundB L k with
  | true => exact (h.range _ (foundB_true hb h.rising)).2
  | false => rw [foundN_none hb]; omega

theorem may_short {s : ByteArray} (h : ¬ mayB s = false) : s.data.toList.length ≤ 64 := by
  unfold mayB at h
  have h2 : 0 < s.size ∧ s.size ≤ 64 := Decidable.byContradiction fun hn => h (decide_eq_false hn)
  have h3 : s.data.toList.length = s.size := Array.length_toList
  omega
theorem good_create {S : FS} (h : S.good) (s : ByteArray) : (S.create s).1.good := by
  obtain ⟨L0, A, n⟩ := S
  unfold FS.create
  split
  · exact h
  · rename_i hmay
    split
    · exact h
    · refine good_snoc h (Nat.le_succ n) ((h.there.mono (Nat.le_succ n)).with _ _ ⟨by omega, Nat.le_refl _⟩ (fun p hp _ => ?_) (may_short hmay))
      have h2 : p.2 ≤ n := (h.there.range p hp).2
      show p.2 ≠ n + 1
      omega
theorem good_remove {S : FS} (h : S.good) (s : ByteArray) : (S.remove s).1.good := by
  obtain ⟨L0, A, n⟩ := S
  unfold FS.remove
  split
  · exact h
  · exact good_snoc h (Nat.le_refl n) (h.there.without _)
theorem good_rename {S : FS} (h : S.good) (a b : ByteArray) : (S.rename a b).1.good := by
  obtain ⟨L0, A, n⟩ := S
  unfold FS.rename
  split
  · exact h
  · rename_i hmay
    split
    · exact h
    · rename_i hb
      have hb : foundB (FS.there ⟨L0, A, n⟩) a.data.toList = true := by
        cases hq : foundB (FS.there ⟨L0, A, n⟩) a.data.toList with
        | true => rfl
        | false => exact absurd hq hb
      have hm := foundB_true hb h.there.rising
      refine good_snoc h (Nat.le_refl n) ((h.there.without _).with _ _ (h.there.range _ hm) (fun p hp _ e => ?_) (may_short hmay))
      obtain ⟨hp, hpk⟩ := mem_without.1 hp
      have := h.there.one p hp _ hm e
      rw [this] at hpk
      exact hpk rfl
theorem good_survive {S : FS} (h : S.good) (k : Int) : (S.survive k).good := fun i => by
  show GoodN (actsOn (actsOn S.L0 (S.A.take (upTo k S.A.length))) (([] : List FAct).take i)) S.n
  rw [List.take_nil]
  exact h _
theorem good_sync {S : FS} (h : S.good) : S.sync.good := fun i => by
  show GoodN (actsOn S.there (([] : List FAct).take i)) S.n
  rw [List.take_nil]
  exact h.there

theorem weight_create (S : FS) (s : ByteArray) : (S.create s).1.weight ≤ S.weight + 2 := by
  unfold FS.create
  split
  · exact Nat.le_add_right _ _
  · split
    · exact Nat.le_add_right _ _
    · unfold FS.weight; simp; omega
theorem weight_remove (S : FS) (s : ByteArray) : (S.remove s).1.weight ≤ S.weight + 1 := by
  unfold FS.remove
  split
  · exact Nat.le_add_right _ _
  · unfold FS.weight; simp; omega
theorem weight_rename (S : FS) (a b : ByteArray) : (S.rename a b).1.weight ≤ S.weight + 1 := by
  unfold FS.rename
  split
  · exact Nat.le_add_right _ _
  · split
    · exact Nat.le_add_right _ _
    · unfold FS.weight; simp; omega
theorem weight_survive (S : FS) (k : Int) : (S.survive k).weight ≤ S.weight := by
  have := actsOn_length S.L0 (S.A.take (upTo k S.A.length))
  rw [List.length_take] at this
  unfold FS.survive FS.weight
  simp only [List.length_nil]
  omega
theorem weight_sync (S : FS) : S.sync.weight ≤ S.weight := by
  have := actsOn_length S.L0 S.A
  unfold FS.sync FS.weight FS.there
  simp only [List.length_nil]
  omega

/-- The names that the statements use. -/
def nameT (n : Nat) : ByteArray :=
  match n % 7 with
  | 0 => ⟨#[97]⟩
  | 1 => ⟨#[98]⟩
  | 2 => ⟨#[109, 97, 110, 105, 102, 101, 115, 116]⟩
  | 3 => ⟨#[119, 97, 108, 45, 49]⟩
  | 4 => ⟨#[115, 101, 103, 45, 50]⟩
  | 5 => ⟨#[116, 109, 112]⟩
  | _ => ⟨#[99]⟩
theorem nameT_cases (n : Nat) : nameT n = ⟨#[97]⟩ ∨ nameT n = ⟨#[98]⟩ ∨ nameT n = ⟨#[109, 97, 110, 105, 102, 101, 115, 116]⟩ ∨ nameT n = ⟨#[119, 97, 108, 45, 49]⟩ ∨ nameT n = ⟨#[115, 101, 103, 45, 50]⟩ ∨ nameT n = ⟨#[116, 109, 112]⟩ ∨ nameT n = ⟨#[99]⟩ := by
  unfold nameT
  split <;> simp
theorem nameT_size (n : Nat) : 1 ≤ (nameT n).size ∧ (nameT n).size ≤ 8 := by
  rcases nameT_cases n with h | h | h | h | h | h | h <;> rw [h] <;> exact ⟨by decide, by decide⟩
theorem nameT_may (n : Nat) : mayB (nameT n) = true := by
  obtain ⟨h1, h2⟩ := nameT_size n
  exact decide_eq_true ⟨by omega, by omega⟩

/-- What an act of the statements does. -/
def FS.does (S : FS) (what a b : Nat) : FS :=
  if what % 3 = 0 then (S.create (nameT a)).1 else if what % 3 = 1 then (S.rename (nameT a) (nameT b)).1 else (S.remove (nameT a)).1
theorem good_does {S : FS} (h : S.good) (what a b : Nat) : (S.does what a b).good := by
  unfold FS.does
  split
  · exact good_create h _
  · split
    · exact good_rename h _ _
    · exact good_remove h _
theorem weight_does (S : FS) (what a b : Nat) : (S.does what a b).weight ≤ S.weight + 2 := by
  unfold FS.does
  split
  · exact weight_create S _
  · split
    · exact Nat.le_succ_of_le (weight_rename S _ _)
    · exact Nat.le_succ_of_le (weight_remove S _)
end Go.Proofs.Ytfjgefnklelnnaa

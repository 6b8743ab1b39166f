/-
  The methods, at both folders, and beside a copy.
-/
import Derived.Test.YtfjgefnklelnnaaOTrip
import Derived.Test.YtfjgefnklelnnaaOLaw
namespace Go.Proofs.Ytfjgefnklelnnaa
open Go.RowKit Go.Shelf

section
variable {w0 w : World} {p q c : Nat} {S T U : FS}
theorem twin_create (h : Twin w0 w p S q T) (s : ByteArray) (hs : s.size ≤ 1000000) (hl : S.weight ≤ 90000) :
    Calls Try.prog 11 #[.pointer (some ⟨p, 0, none⟩), .string s] w fun e w' => e = .returned (.tuple #[.int .i64 ((S.create s).2.1 : Nat), .int .i64 ((S.create s).2.2 : Nat)]) ∧ Twin w0 w' p (S.create s).1 q T :=
  h.went (good_create h.good s) fun _ _ _ _ hf => create_any hf s hs hl
theorem twin_rename (h : Twin w0 w p S q T) (a b : ByteArray) (ha : a.size ≤ 1000000) (hb : b.size ≤ 1000000) (hl : S.weight ≤ 90000) :
    Calls Try.prog 13 #[.pointer (some ⟨p, 0, none⟩), .string a, .string b] w fun e w' => e = .returned (.int .i64 ((S.rename a b).2 : Nat)) ∧ Twin w0 w' p (S.rename a b).1 q T :=
  h.went (good_rename h.good a b) fun _ _ _ _ hf => rename_any hf a b ha hb hl (by have := h.good.there.found a.data.toList; unfold FS.weight at hl; omega)
theorem twin_remove (h : Twin w0 w p S q T) (s : ByteArray) (hs : s.size ≤ 1000000) (hl : S.weight ≤ 90000) :
    Calls Try.prog 15 #[.pointer (some ⟨p, 0, none⟩), .string s] w fun e w' => e = .returned (.int .i64 ((S.remove s).2 : Nat)) ∧ Twin w0 w' p (S.remove s).1 q T :=
  h.went (good_remove h.good s) fun _ _ _ _ hf => remove_any hf s hs hl
theorem twin_sync (h : Twin w0 w p S q T) (hl : S.weight ≤ 90000) :
    Calls Try.prog 17 #[.pointer (some ⟨p, 0, none⟩)] w fun e w' => e = .returned (.tuple #[]) ∧ Twin w0 w' p S.sync q T :=
  h.went (good_sync h.good) fun _ _ _ _ hf => sync_any hf hl
theorem twin_survive (h : Twin w0 w p S q T) (k : Int) (hk : -1000000 ≤ k ∧ k ≤ 1000000) (hl : S.weight ≤ 90000) :
    Calls Try.prog 20 #[.pointer (some ⟨p, 0, none⟩), .int .i64 k] w fun e w' => e = .returned (.tuple #[]) ∧ Twin w0 w' p (S.survive k) q T :=
  h.went (good_survive h.good k) fun _ _ _ _ hf => survive_any hf k hk hl

theorem twinR_create (h : Twin w0 w p S q T) (s : ByteArray) (hs : s.size ≤ 1000000) (hg : T.good) (hl : T.weight ≤ 90000) :
    Calls Try.prog 12 #[.pointer (some ⟨q, 0, none⟩), .string s] w fun e w' => e = .returned (.tuple #[.int .i64 ((T.create s).2.1 : Nat), .int .i64 ((T.create s).2.2 : Nat)]) ∧ Twin w0 w' p S q (T.create s).1 :=
  h.wentR fun _ hr => refS_create hr s hs hg hl
theorem twinR_rename (h : Twin w0 w p S q T) (a b : ByteArray) (hb : b.size ≤ 1000000) (hg : T.good) (hl : T.weight ≤ 90000) :
    Calls Try.prog 14 #[.pointer (some ⟨q, 0, none⟩), .string a, .string b] w fun e w' => e = .returned (.int .i64 ((T.rename a b).2 : Nat)) ∧ Twin w0 w' p S q (T.rename a b).1 :=
  h.wentR fun _ hr => refS_rename hr a b hb hg hl
theorem twinR_remove (h : Twin w0 w p S q T) (s : ByteArray) (hg : T.good) (hl : T.weight ≤ 90000) :
    Calls Try.prog 16 #[.pointer (some ⟨q, 0, none⟩), .string s] w fun e w' => e = .returned (.int .i64 ((T.remove s).2 : Nat)) ∧ Twin w0 w' p S q (T.remove s).1 :=
  h.wentR fun _ hr => refS_remove hr s hg hl
theorem twinR_survive (h : Twin w0 w p S q T) (k : Int) (hk : -1000000 ≤ k ∧ k ≤ 1000000) (hl : T.weight ≤ 90000) :
    Calls Try.prog 18 #[.pointer (some ⟨q, 0, none⟩), .int .i64 k] w fun e w' => e = .returned (.tuple #[]) ∧ Twin w0 w' p S q (T.survive k) :=
  h.wentR fun _ hr => refS_survive hr k hk.1 hk.2 hl
theorem twinR_pending (h : Twin w0 w p S q T) : Calls Try.prog 19 #[.pointer (some ⟨q, 0, none⟩)] w fun e w' => e = .returned (.int .i64 (T.A.length : Nat)) ∧ Twin w0 w' p S q T := by
  obtain ⟨av, fs, M, I, J, h1, h2, h3⟩ := id h
  exact (refS_pending h2).mono fun e w' ⟨he, hb⟩ => ⟨he, h.next hb⟩
theorem sync_survive (S : FS) : S.survive (S.A.length : Nat) = S.sync := by
  have hu : upTo (S.A.length : Nat) S.A.length = S.A.length := by unfold upTo; omega
  unfold FS.survive FS.sync
  rw [hu, List.take_length]
  rfl

theorem trip_create (h : Trip w0 w p S c U q T) (s : ByteArray) (hs : s.size ≤ 1000000) (hl : S.weight ≤ 90000) :
    Calls Try.prog 11 #[.pointer (some ⟨p, 0, none⟩), .string s] w fun e w' => e = .returned (.tuple #[.int .i64 ((S.create s).2.1 : Nat), .int .i64 ((S.create s).2.2 : Nat)]) ∧ Trip w0 w' p (S.create s).1 c U q T :=
  h.went (good_create h.good s) fun _ _ _ _ hf => create_any hf s hs hl
theorem trip_remove (h : Trip w0 w p S c U q T) (s : ByteArray) (hs : s.size ≤ 1000000) (hl : S.weight ≤ 90000) :
    Calls Try.prog 15 #[.pointer (some ⟨p, 0, none⟩), .string s] w fun e w' => e = .returned (.int .i64 ((S.remove s).2 : Nat)) ∧ Trip w0 w' p (S.remove s).1 c U q T :=
  h.went (good_remove h.good s) fun _ _ _ _ hf => remove_any hf s hs hl
theorem trip_survive (h : Trip w0 w p S c U q T) (k : Int) (hk : -1000000 ≤ k ∧ k ≤ 1000000) (hl : S.weight ≤ 90000) :
    Calls Try.prog 20 #[.pointer (some ⟨p, 0, none⟩), .int .i64 k] w fun e w' => e = .returned (.tuple #[]) ∧ Trip w0 w' p (S.survive k) c U q T :=
  h.went (good_survive h.good k) fun _ _ _ _ hf => survive_any hf k hk hl
end
end Go.Proofs.Ytfjgefnklelnnaa

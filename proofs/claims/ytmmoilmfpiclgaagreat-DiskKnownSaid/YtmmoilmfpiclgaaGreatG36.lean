/-
  The chapter's examples, and what else is closed: DiskKnown.
-/
import Derived.Test.YtmmoilmfpiclgaaGreatG32
namespace Go.Proofs.YtmmoilmfpiclgaaGreat
open Go.RowKit Go.Shelf
open Fld (FS Names FAct actsOn foundN foundB findT withT withoutT GoodN Rising mayB nam nameMax FolderS FolderIn ARow textsOf)

theorem light_laid {S : DS} {a b : Nat} (h : S.Light a b) (s : ByteArray) {D : List UInt8} (hD : D.length ≤ b) : (S.laid s D).Light (a + 2) b := by
  refine ⟨Nat.le_trans (Fld.weight_create S.fold s) (Nat.add_le_add_right h.fold 2), fun n => ?_, fun n => ?_, Nat.le_trans h.steps (Nat.le_add_right _ _)⟩
  · show (upd S.file _ ⟨D, []⟩ n).A.length ≤ _
    unfold upd
    split
    · exact Nat.zero_le _
    · exact Nat.le_trans (h.acts n) (Nat.le_add_right _ _)
  · show (upd S.file _ ⟨D, []⟩ n).heft ≤ _
    unfold upd
    split
    · show bulk D [] ≤ b
      rw [bulk_nil]; exact hD
    · exact h.heft n
theorem light_ofs {b : Nat} : ∀ {l : FL} {S S' : DS} {a : Nat}, S.Light a b → (∀ x ∈ l, x.2.length ≤ b) → DS.ofs S l = some S' → S'.Light (a + 2 * l.length) b ∧ S'.room = S.room
  | [], S, S', a, h, _, e => by cases e; exact ⟨h, rfl⟩
  | x :: l, S, S', a, h, hl, e => by
    unfold DS.ofs at e
    split at e
    · obtain ⟨h1, h2⟩ := light_ofs (light_laid h (Fld.strO x.1) (hl x (by simp))) (fun y hy => hl y (by simp [hy])) e
      exact ⟨h1.mono (by rw [List.length_cons]; omega) (Nat.le_refl _), h2⟩
    · cases e
theorem sized_of {q b : Nat} {l : FL} {S : DS} (hl : ∀ x ∈ l, x.2.length ≤ b) (e : DS.of q l = some S) : S.Sized (2 * l.length) b q := by
  unfold DS.of at e
  cases h : DS.ofs (DS.new q) l with
  | none => rw [h] at e; cases e
  | some T =>
    rw [h] at e
    cases e
    obtain ⟨h1, h2⟩ := light_ofs ((light_new q).mono (Nat.zero_le 0) (Nat.zero_le b)) hl h
    rw [Nat.zero_add] at h1
    refine ⟨⟨?_, h1.acts, h1.heft, h1.steps⟩, h2⟩
    exact Nat.le_trans (Fld.weight_sync T.fold) h1.fold
theorem some_getD {α : Type} {o : Option α} {d : α} (h : o.isSome = true) : o = some (o.getD d) := by
  cases o with
  | none => cases h
  | some x => rfl

def knF : FL := [([98], [111, 108, 100]), ([97], [120])]
def ovF : FL := [([122], [49, 50, 51, 52, 53])]
def emF : FL := [([], [])]
def qqF : FL := [([113], []), ([113], [])]

def kn0 : DS := (DS.of 9 knF).getD (DS.new 0)
theorem kn0_of : DS.of 9 knF = some kn0 := some_getD (by decide +kernel)
theorem sized_kn0 : kn0.Sized 4 9 9 := sized_of (by decide) kn0_of

def ov0 : DS := (DS.of 3 ovF).getD (DS.new 0)
theorem ov0_of : DS.of 3 ovF = some ov0 := some_getD (by decide +kernel)
theorem sized_ov0 : ov0.Sized 2 9 3 := sized_of (by decide) ov0_of

theorem em_of : DS.of 5 emF = none := Option.isNone_iff_eq_none.1 (by decide +kernel)
theorem qq_of : DS.of 5 qqF = none := Option.isNone_iff_eq_none.1 (by decide +kernel)

def kn1 : DS := (kn0.create ⟨#[116]⟩).1
theorem sized_kn1 : kn1.Sized 7 9 9 := sized_create sized_kn0 _

theorem kn1_e : (kn0.create ⟨#[116]⟩).2 = 0 := by decide +kernel

def kn2 : DS := (kn1.append ⟨#[116]⟩ (joined [⟨#[110, 101, 119]⟩, ⟨#[101, 114]⟩])).1
theorem sized_kn2 : kn2.Sized 10 18 9 := sized_append sized_kn1 _ _

theorem kn2_e : (kn1.append ⟨#[116]⟩ (joined [⟨#[110, 101, 119]⟩, ⟨#[101, 114]⟩])).2 = 0 := by decide +kernel

def kn3 : DS := (kn2.sync ⟨#[116]⟩).1
theorem sized_kn3 : kn3.Sized 13 18 9 := sized_sync sized_kn2 _

theorem kn3_e : (kn2.sync ⟨#[116]⟩).2 = 0 := by decide +kernel

def kn4 : DS := (kn3.rename ⟨#[116]⟩ ⟨#[98]⟩).1
theorem sized_kn4 : kn4.Sized 16 18 9 := sized_rename sized_kn3 _ _

theorem kn4_e : (kn3.rename ⟨#[116]⟩ ⟨#[98]⟩).2 = 0 := by decide +kernel

def ov1 : DS := (ov0.append ⟨#[122]⟩ [54]).1
theorem sized_ov1 : ov1.Sized 5 12 3 := sized_append sized_ov0 _ _

theorem ov1_e : (ov0.append ⟨#[122]⟩ [54]).2 = 10 := by decide +kernel

def ov2 : DS := (ov1.append ⟨#[122]⟩ []).1
theorem sized_ov2 : ov2.Sized 8 15 3 := sized_append sized_ov1 _ _

theorem ov2_e : (ov1.append ⟨#[122]⟩ []).2 = 0 := by decide +kernel

def kn5 : DS := (kn4.append ⟨#[110, 111, 110, 101]⟩ [120]).1
theorem sized_kn5 : kn5.Sized 19 27 9 := sized_append sized_kn4 _ _

theorem kn5_e : (kn4.append ⟨#[110, 111, 110, 101]⟩ [120]).2 = 9 := by decide +kernel

def kn6 : DS := (kn5.sync ⟨#[110, 111, 110, 101]⟩).1
theorem sized_kn6 : kn6.Sized 22 27 9 := sized_sync sized_kn5 _

theorem kn6_e : (kn5.sync ⟨#[110, 111, 110, 101]⟩).2 = 9 := by decide +kernel

def kn7 : DS := (kn6.truncate ⟨#[110, 111, 110, 101]⟩ 0).1
theorem sized_kn7 : kn7.Sized 25 27 9 := sized_truncate sized_kn6 _ _

theorem kn7_e : (kn6.truncate ⟨#[110, 111, 110, 101]⟩ 0).2 = 9 := by decide +kernel

def kn8 : DS := (kn7.truncate ⟨#[97]⟩ 2).1
theorem sized_kn8 : kn8.Sized 28 27 9 := sized_truncate sized_kn7 _ _

theorem kn8_e : (kn7.truncate ⟨#[97]⟩ 2).2 = 17 := by decide +kernel

def kn9 : DS := (kn8.rename ⟨#[110, 111, 110, 101]⟩ ⟨#[97]⟩).1
theorem sized_kn9 : kn9.Sized 31 27 9 := sized_rename sized_kn8 _ _

theorem kn9_e : (kn8.rename ⟨#[110, 111, 110, 101]⟩ ⟨#[97]⟩).2 = 9 := by decide +kernel

def kn10 : DS := (kn9.remove ⟨#[110, 111, 110, 101]⟩).1
theorem sized_kn10 : kn10.Sized 34 27 9 := sized_remove sized_kn9 _

theorem kn10_e : (kn9.remove ⟨#[110, 111, 110, 101]⟩).2 = 9 := by decide +kernel

def kn11 : DS := (kn10.create ⟨#[97]⟩).1
theorem sized_kn11 : kn11.Sized 37 27 9 := sized_create sized_kn10 _

theorem kn11_e : (kn10.create ⟨#[97]⟩).2 = 8 := by decide +kernel

def kn12 : DS := (kn11.create ⟨#[]⟩).1
theorem sized_kn12 : kn12.Sized 40 27 9 := sized_create sized_kn11 _

theorem kn12_e : (kn11.create ⟨#[]⟩).2 = 2 := by decide +kernel

def kf : DS := kn4.restart [1, 0, 0, 0, 0, 9]
theorem sized_kf : kf.Sized 16 18 9 := sized_restart sized_kn4 _

def kg : DS := kn4.restart [2]
theorem sized_kg : kg.Sized 16 18 9 := sized_restart sized_kn4 _

def kh : DS := kn4.restart []
theorem sized_kh : kh.Sized 16 18 9 := sized_restart sized_kn4 _

theorem kn4_files : kn4.files = [([97], [120]), ([98], [110, 101, 119, 101, 114])] := by decide +kernel

theorem kf_files : kf.files = [([97], [120]), ([98], [111, 108, 100]), ([116], [110, 101, 119, 101, 114])] := by decide +kernel

theorem kg_files : kg.files = [([97], [120]), ([98], [110, 101, 119, 101, 114])] := by decide +kernel

theorem kh_files : kh.files = [([97], [120]), ([98], [111, 108, 100])] := by decide +kernel

theorem kn4_used : kn4.usedD = 6 := by decide +kernel
theorem kn4_t : kn4.readAt ⟨#[116]⟩ 0 1 = ([], 9) := by decide +kernel
theorem kn4_a : kn4.readAt ⟨#[97]⟩ 2 1 = ([], 17) := by decide +kernel
theorem kn4_b : kn4.size ⟨#[98]⟩ = (5, 0) := by decide +kernel
theorem ov2_used : ov2.usedD = 5 := by decide +kernel
theorem ov2_room : ov2.room = 3 := by decide +kernel
theorem ov2_steps : ov2.steps = 2 := by decide +kernel

theorem has_of {w0 W : World} {n : Nat} {L : List (Nat × DS)} (h : Flock w0 W n L) (i : Nat) (hi : i < L.length) (hf : L[i].2.Fit) (xs : List ByteArray) {fl : FL} (hfl : L[i].2.files = fl) (hxs : xs = fl.flatMap fun p => [Fld.strO p.1, Fld.strO p.2]) (hm : fl.length ≤ 100000 := by decide) :
    Calls Tryz.prog 35 #[.pointer (some ⟨L[i].1, 0, none⟩), .slice (some ⟨W.heap.size, 0, none⟩) xs.length xs.length] (W.alloc (.cells (xs.map Value.string).toArray 9)) fun e w' => e = .returned (.bool true) ∧ Flock w0 w' n L := by
  have key : ∀ fl : FL, (fl.flatMap fun p => [Fld.strO p.1, Fld.strO p.2]).length = 2 * fl.length ∧ ∀ k, k < fl.length → Fld.strO (flAt fl k).1 = (fl.flatMap fun p => [Fld.strO p.1, Fld.strO p.2]).getD (2 * k) ⟨#[]⟩ ∧ Fld.strO (flAt fl k).2 = (fl.flatMap fun p => [Fld.strO p.1, Fld.strO p.2]).getD (2 * k + 1) ⟨#[]⟩ := by
    intro fl
    induction fl with
    | nil => exact ⟨rfl, fun k hk => absurd hk (Nat.not_lt_zero _)⟩
    | cons x l ih =>
      obtain ⟨h1, h2⟩ := ih
      refine ⟨by simp only [List.flatMap_cons, List.length_append, List.length_cons, List.length_nil, h1]; omega, fun k hk => ?_⟩
      cases k with
      | zero => exact ⟨rfl, rfl⟩
      | succ k =>
        obtain ⟨h3, h4⟩ := h2 k (by simpa using hk)
        exact ⟨by rw [show 2 * (k + 1) = 2 * k + 2 by omega]; exact h3, by rw [show 2 * (k + 1) + 1 = (2 * k + 1) + 2 by omega]; exact h4⟩
  obtain ⟨k1, k2⟩ := key fl
  rw [← hxs] at k1 k2
  exact has_strs h i hi hf xs (by rw [hfl]; exact k1) (by rw [hfl]; exact hm) (by rw [hfl]; exact k2)


set_option maxHeartbeats 16000000 in
set_option maxRecDepth 100000 in
theorem diskKnown_walk (w : World) : Calls Tryz.prog 6 #[] w fun e w' => e = .returned (.bool true) ∧ Below w.heap.size w w' := by
  have HW := Lib.hid (works_any w)
  have QOF := Lib.hid (show ∀ W, Flock w W 0 [] → Calls Tryz.prog 7 #[.slice (some ⟨W.heap.size, 0, none⟩) 2 2, .int .i64 9] (W.alloc (.cells #[.string ⟨#[98]⟩, .string ⟨#[111, 108, 100]⟩, .string ⟨#[97]⟩, .string ⟨#[120]⟩] 26)) fun e w' => ∃ p, e = .returned (.pointer (some ⟨p, 0, none⟩)) ∧ Flock w w' 0 [(p, kn0)] from fun W h =>
    flock_of h ((Below.refl _ W).alloc (Nat.le_refl _) _) 9 (by decide) (frow_laid knF W) (by decide) (by decide) kn0_of)
  have QC1 := Lib.hid (show ∀ W p, Flock w W 0 [(p, kn0)] → Calls Tryz.prog 12 #[.pointer (some ⟨p, 0, none⟩), .string ⟨#[116]⟩] W fun e w' => e = .returned (.int .i64 0) ∧ Flock w w' 0 [(p, kn1)] from fun W p h =>
    (flock_create h 0 Nat.zero_lt_one (Nat.le_refl _) (sized_kn0.fit (by decide) (by decide) (by decide)) ⟨#[116]⟩ (by decide)).mono fun e w' ⟨he, hw⟩ => ⟨by rw [he]; exact congrArg (fun k : Nat => Ending.returned (.int .i64 (k : Int))) kn1_e, hw⟩)
  have QA1 := Lib.hid (show ∀ W p, Flock w W 0 [(p, kn1)] → Calls Tryz.prog 13 #[.pointer (some ⟨p, 0, none⟩), .string ⟨#[116]⟩, .slice (some ⟨W.heap.size, 0, none⟩) 2 2] (W.alloc (.cells #[.string ⟨#[110, 101, 119]⟩, .string ⟨#[101, 114]⟩] 9)) fun e w' => e = .returned (.int .i64 0) ∧ Flock w w' 0 [(p, kn2)] from fun W p h =>
    (flock_appends h 0 Nat.zero_lt_one (Nat.le_refl _) (sized_kn1.fit (by decide) (by decide) (by decide)) ⟨#[116]⟩ [⟨#[110, 101, 119]⟩, ⟨#[101, 114]⟩] (by decide) (by decide) (by decide)).mono fun e w' ⟨he, hw⟩ => ⟨by rw [he]; exact congrArg (fun k : Nat => Ending.returned (.int .i64 (k : Int))) kn2_e, hw⟩)
  have QY1 := Lib.hid (show ∀ W p, Flock w W 0 [(p, kn2)] → Calls Tryz.prog 22 #[.pointer (some ⟨p, 0, none⟩), .string ⟨#[116]⟩] W fun e w' => e = .returned (.int .i64 0) ∧ Flock w w' 0 [(p, kn3)] from fun W p h =>
    (flock_sync h 0 Nat.zero_lt_one (Nat.le_refl _) (sized_kn2.fit (by decide) (by decide) (by decide)) ⟨#[116]⟩ (by decide)).mono fun e w' ⟨he, hw⟩ => ⟨by rw [he]; exact congrArg (fun k : Nat => Ending.returned (.int .i64 (k : Int))) kn3_e, hw⟩)
  have QN1 := Lib.hid (show ∀ W p, Flock w W 0 [(p, kn3)] → Calls Tryz.prog 26 #[.pointer (some ⟨p, 0, none⟩), .string ⟨#[116]⟩, .string ⟨#[98]⟩] W fun e w' => e = .returned (.int .i64 0) ∧ Flock w w' 0 [(p, kn4)] from fun W p h =>
    (flock_rename h 0 Nat.zero_lt_one (Nat.le_refl _) (sized_kn3.fit (by decide) (by decide) (by decide)) ⟨#[116]⟩ ⟨#[98]⟩ (by decide) (by decide)).mono fun e w' ⟨he, hw⟩ => ⟨by rw [he]; exact congrArg (fun k : Nat => Ending.returned (.int .i64 (k : Int))) kn4_e, hw⟩)
  have QP1 := Lib.hid (show ∀ W p, Flock w W 1 [(p, kn4)] → Calls Tryz.prog 11 #[.pointer (some ⟨p, 0, none⟩)] W fun e w' => ∃ q, e = .returned (.pointer (some ⟨q, 0, none⟩)) ∧ Flock w w' 1 [(p, kn4), (q, kn4)] from fun W p h =>
    flock_copy h 0 (by simp) Nat.zero_lt_one (sized_kn4.fit (by decide) (by decide) (by decide)))
  have QR1 := Lib.hid (show ∀ W p q, Flock w W 1 [(p, kn4), (q, kn4)] → Calls Tryz.prog 14 #[.pointer (some ⟨q, 0, none⟩), .slice (some ⟨W.heap.size, 0, none⟩) 6 6] (W.alloc (.cells #[.int .u16 1, .int .u16 0, .int .u16 0, .int .u16 0, .int .u16 0, .int .u16 9] 57)) fun e w' => e = .returned (.tuple #[]) ∧ Flock w w' 1 [(p, kn4), (q, kf)] from fun W p q h =>
    flock_restart1 h 1 (by simp) (by decide) (sized_kn4.fit (by decide) (by decide) (by decide)) (row16_laid [1, 0, 0, 0, 0, 9] (by decide) W) (by decide) (by decide))
  have QP2 := Lib.hid (show ∀ W p q, Flock w W 1 [(p, kn4), (q, kf)] → Calls Tryz.prog 11 #[.pointer (some ⟨p, 0, none⟩)] W fun e w' => ∃ r, e = .returned (.pointer (some ⟨r, 0, none⟩)) ∧ Flock w w' 1 [(p, kn4), (q, kf), (r, kn4)] from fun W p q h =>
    flock_copy h 0 (by simp) Nat.zero_lt_one (sized_kn4.fit (by decide) (by decide) (by decide)))
  have QR2 := Lib.hid (show ∀ W p q r, Flock w W 1 [(p, kn4), (q, kf), (r, kn4)] → Calls Tryz.prog 14 #[.pointer (some ⟨r, 0, none⟩), .slice (some ⟨W.heap.size, 0, none⟩) 1 1] (W.alloc (.cells #[.int .u16 2] 57)) fun e w' => e = .returned (.tuple #[]) ∧ Flock w w' 1 [(p, kn4), (q, kf), (r, kg)] from fun W p q r h =>
    flock_restart1 h 2 (by simp) (by decide) (sized_kn4.fit (by decide) (by decide) (by decide)) (row16_laid [2] (by decide) W) (by decide) (by decide))
  have QP3 := Lib.hid (show ∀ W p q r, Flock w W 1 [(p, kn4), (q, kf), (r, kg)] → Calls Tryz.prog 11 #[.pointer (some ⟨p, 0, none⟩)] W fun e w' => ∃ s, e = .returned (.pointer (some ⟨s, 0, none⟩)) ∧ Flock w w' 1 [(p, kn4), (q, kf), (r, kg), (s, kn4)] from fun W p q r h =>
    flock_copy h 0 (by simp) Nat.zero_lt_one (sized_kn4.fit (by decide) (by decide) (by decide)))
  have QR3 := Lib.hid (show ∀ W p q r s, Flock w W 1 [(p, kn4), (q, kf), (r, kg), (s, kn4)] → Calls Tryz.prog 14 #[.pointer (some ⟨s, 0, none⟩), .slice none 0 0] W fun e w' => e = .returned (.tuple #[]) ∧ Flock w w' 1 [(p, kn4), (q, kf), (r, kg), (s, kh)] from fun W p q r s h =>
    flock_restart0 h 3 (by simp) (by decide) (sized_kn4.fit (by decide) (by decide) (by decide)))
  have QHD := Lib.hid (show ∀ W p q r s, Flock w W 1 [(p, kn4), (q, kf), (r, kg), (s, kh)] → Calls Tryz.prog 35 #[.pointer (some ⟨p, 0, none⟩), .slice (some ⟨W.heap.size, 0, none⟩) 4 4] (W.alloc (.cells #[.string ⟨#[97]⟩, .string ⟨#[120]⟩, .string ⟨#[98]⟩, .string ⟨#[110, 101, 119, 101, 114]⟩] 9)) fun e w' => e = .returned (.bool true) ∧ Flock w w' 1 [(p, kn4), (q, kf), (r, kg), (s, kh)] from fun W p q r s h =>
    has_of h 0 (by simp) (sized_kn4.fit (by decide) (by decide) (by decide)) [⟨#[97]⟩, ⟨#[120]⟩, ⟨#[98]⟩, ⟨#[110, 101, 119, 101, 114]⟩] kn4_files rfl)
  have QHF := Lib.hid (show ∀ W p q r s, Flock w W 1 [(p, kn4), (q, kf), (r, kg), (s, kh)] → Calls Tryz.prog 35 #[.pointer (some ⟨q, 0, none⟩), .slice (some ⟨W.heap.size, 0, none⟩) 6 6] (W.alloc (.cells #[.string ⟨#[97]⟩, .string ⟨#[120]⟩, .string ⟨#[98]⟩, .string ⟨#[111, 108, 100]⟩, .string ⟨#[116]⟩, .string ⟨#[110, 101, 119, 101, 114]⟩] 9)) fun e w' => e = .returned (.bool true) ∧ Flock w w' 1 [(p, kn4), (q, kf), (r, kg), (s, kh)] from fun W p q r s h =>
    has_of h 1 (by simp) (sized_kf.fit (by decide) (by decide) (by decide)) [⟨#[97]⟩, ⟨#[120]⟩, ⟨#[98]⟩, ⟨#[111, 108, 100]⟩, ⟨#[116]⟩, ⟨#[110, 101, 119, 101, 114]⟩] kf_files rfl)
  have QHG := Lib.hid (show ∀ W p q r s, Flock w W 1 [(p, kn4), (q, kf), (r, kg), (s, kh)] → Calls Tryz.prog 35 #[.pointer (some ⟨r, 0, none⟩), .slice (some ⟨W.heap.size, 0, none⟩) 4 4] (W.alloc (.cells #[.string ⟨#[97]⟩, .string ⟨#[120]⟩, .string ⟨#[98]⟩, .string ⟨#[110, 101, 119, 101, 114]⟩] 9)) fun e w' => e = .returned (.bool true) ∧ Flock w w' 1 [(p, kn4), (q, kf), (r, kg), (s, kh)] from fun W p q r s h =>
    has_of h 2 (by simp) (sized_kg.fit (by decide) (by decide) (by decide)) [⟨#[97]⟩, ⟨#[120]⟩, ⟨#[98]⟩, ⟨#[110, 101, 119, 101, 114]⟩] kg_files rfl)
  have QHH := Lib.hid (show ∀ W p q r s, Flock w W 1 [(p, kn4), (q, kf), (r, kg), (s, kh)] → Calls Tryz.prog 35 #[.pointer (some ⟨s, 0, none⟩), .slice (some ⟨W.heap.size, 0, none⟩) 4 4] (W.alloc (.cells #[.string ⟨#[97]⟩, .string ⟨#[120]⟩, .string ⟨#[98]⟩, .string ⟨#[111, 108, 100]⟩] 9)) fun e w' => e = .returned (.bool true) ∧ Flock w w' 1 [(p, kn4), (q, kf), (r, kg), (s, kh)] from fun W p q r s h =>
    has_of h 3 (by simp) (sized_kh.fit (by decide) (by decide) (by decide)) [⟨#[97]⟩, ⟨#[120]⟩, ⟨#[98]⟩, ⟨#[111, 108, 100]⟩] kh_files rfl)
  have QU1 := Lib.hid (show ∀ W p q r s, Flock w W 1 [(p, kn4), (q, kf), (r, kg), (s, kh)] → Calls Tryz.prog 19 #[.pointer (some ⟨p, 0, none⟩)] W fun e w' => e = .returned (.int .i64 6) ∧ W = w' from fun W p q r s h =>
    (flock_used h 0 (by simp)).mono fun e w' ⟨he, hw⟩ => ⟨by rw [he]; exact congrArg (fun k : Nat => Ending.returned (.int .i64 (k : Int))) kn4_used, hw⟩)
  have QT1 := Lib.hid (show ∀ W p q r s, Flock w W 1 [(p, kn4), (q, kf), (r, kg), (s, kh)] → Calls Tryz.prog 23 #[.pointer (some ⟨p, 0, none⟩), .string ⟨#[116]⟩, .int .i64 0, .int .i64 1] W fun e w' => e = .returned (.tuple #[.string ⟨#[]⟩, .int .i64 9]) ∧ W = w' from fun W p q r s h =>
    (flock_readAt h 0 (by simp) (sized_kn4.fit (by decide) (by decide) (by decide)) ⟨#[116]⟩ 0 1 (by decide) (by decide) (by decide) (by decide)).mono fun e w' ⟨he, hw⟩ => ⟨by rw [he]; exact congrArg (fun k : List UInt8 × Int => Ending.returned (.tuple #[.string ⟨k.1.toArray⟩, .int .i64 k.2])) kn4_t, hw⟩)
  have QT2 := Lib.hid (show ∀ W p q r s, Flock w W 1 [(p, kn4), (q, kf), (r, kg), (s, kh)] → Calls Tryz.prog 23 #[.pointer (some ⟨p, 0, none⟩), .string ⟨#[97]⟩, .int .i64 2, .int .i64 1] W fun e w' => e = .returned (.tuple #[.string ⟨#[]⟩, .int .i64 17]) ∧ W = w' from fun W p q r s h =>
    (flock_readAt h 0 (by simp) (sized_kn4.fit (by decide) (by decide) (by decide)) ⟨#[97]⟩ 2 1 (by decide) (by decide) (by decide) (by decide)).mono fun e w' ⟨he, hw⟩ => ⟨by rw [he]; exact congrArg (fun k : List UInt8 × Int => Ending.returned (.tuple #[.string ⟨k.1.toArray⟩, .int .i64 k.2])) kn4_a, hw⟩)
  have QS1 := Lib.hid (show ∀ W p q r s, Flock w W 1 [(p, kn4), (q, kf), (r, kg), (s, kh)] → Calls Tryz.prog 34 #[.pointer (some ⟨p, 0, none⟩), .string ⟨#[98]⟩] W fun e w' => e = .returned (.tuple #[.int .i64 5, .int .i64 0]) ∧ W = w' from fun W p q r s h =>
    (flock_size h 0 (by simp) (sized_kn4.fit (by decide) (by decide) (by decide)) ⟨#[98]⟩ (by decide)).mono fun e w' ⟨he, hw⟩ => ⟨by rw [he]; exact congrArg (fun k : Nat × Nat => Ending.returned (.tuple #[.int .i64 (k.1 : Int), .int .i64 (k.2 : Int)])) kn4_b, hw⟩)
  have QOV := Lib.hid (show ∀ W p q r s, Flock w W 1 [(p, kn4), (q, kf), (r, kg), (s, kh)] → Calls Tryz.prog 7 #[.slice (some ⟨W.heap.size, 0, none⟩) 1 1, .int .i64 3] (W.alloc (.cells #[.string ⟨#[122]⟩, .string ⟨#[49, 50, 51, 52, 53]⟩] 26)) fun e w' => ∃ o, e = .returned (.pointer (some ⟨o, 0, none⟩)) ∧ Flock w w' 1 [(p, kn4), (q, kf), (r, kg), (s, kh), (o, ov0)] from fun W p q r s h =>
    flock_of h ((Below.refl _ W).alloc (Nat.le_refl _) _) 3 (by decide) (frow_laid ovF W) (by decide) (by decide) ov0_of)
  have QA2 := Lib.hid (show ∀ W p q r s o, Flock w W 1 [(p, kn4), (q, kf), (r, kg), (s, kh), (o, ov0)] → Calls Tryz.prog 13 #[.pointer (some ⟨o, 0, none⟩), .string ⟨#[122]⟩, .slice (some ⟨W.heap.size, 0, none⟩) 1 1] (W.alloc (.cells #[.string ⟨#[54]⟩] 9)) fun e w' => e = .returned (.int .i64 10) ∧ Flock w w' 1 [(p, kn4), (q, kf), (r, kg), (s, kh), (o, ov1)] from fun W p q r s o h =>
    (flock_append1 h 4 (by simp) (by decide) (sized_ov0.fit (by decide) (by decide) (by decide)) ⟨#[122]⟩ ⟨#[54]⟩ (by decide) (by decide)).mono fun e w' ⟨he, hw⟩ => ⟨by rw [he]; exact congrArg (fun k : Nat => Ending.returned (.int .i64 (k : Int))) ov1_e, hw⟩)
  have QA3 := Lib.hid (show ∀ W p q r s o, Flock w W 1 [(p, kn4), (q, kf), (r, kg), (s, kh), (o, ov1)] → Calls Tryz.prog 13 #[.pointer (some ⟨o, 0, none⟩), .string ⟨#[122]⟩, .slice none 0 0] W fun e w' => e = .returned (.int .i64 0) ∧ Flock w w' 1 [(p, kn4), (q, kf), (r, kg), (s, kh), (o, ov2)] from fun W p q r s o h =>
    (flock_append0 h 4 (by simp) (by decide) (sized_ov1.fit (by decide) (by decide) (by decide)) ⟨#[122]⟩ (by decide)).mono fun e w' ⟨he, hw⟩ => ⟨by rw [he]; exact congrArg (fun k : Nat => Ending.returned (.int .i64 (k : Int))) ov2_e, hw⟩)
  have QU2 := Lib.hid (show ∀ W p q r s o, Flock w W 1 [(p, kn4), (q, kf), (r, kg), (s, kh), (o, ov2)] → Calls Tryz.prog 19 #[.pointer (some ⟨o, 0, none⟩)] W fun e w' => e = .returned (.int .i64 5) ∧ W = w' from fun W p q r s o h =>
    (flock_used h 4 (by simp)).mono fun e w' ⟨he, hw⟩ => ⟨by rw [he]; exact congrArg (fun k : Nat => Ending.returned (.int .i64 (k : Int))) ov2_used, hw⟩)
  have QQ2 := Lib.hid (show ∀ W p q r s o, Flock w W 1 [(p, kn4), (q, kf), (r, kg), (s, kh), (o, ov2)] → Calls Tryz.prog 36 #[.pointer (some ⟨o, 0, none⟩)] W fun e w' => e = .returned (.int .i64 3) ∧ W = w' from fun W p q r s o h =>
    (flock_quota h 4 (by simp)).mono fun e w' ⟨he, hw⟩ => ⟨by rw [he]; exact congrArg (fun k : Nat => Ending.returned (.int .i64 (k : Int))) ov2_room, hw⟩)
  have QS2 := Lib.hid (show ∀ W p q r s o, Flock w W 1 [(p, kn4), (q, kf), (r, kg), (s, kh), (o, ov2)] → Calls Tryz.prog 37 #[.pointer (some ⟨o, 0, none⟩)] W fun e w' => e = .returned (.int .i64 2) ∧ W = w' from fun W p q r s o h =>
    (flock_steps h 4 (by simp)).mono fun e w' ⟨he, hw⟩ => ⟨by rw [he]; exact congrArg (fun k : Nat => Ending.returned (.int .i64 (k : Int))) ov2_steps, hw⟩)
  have QE1 := Lib.hid (show ∀ W p, Flock w W 0 [(p, kn4)] → Calls Tryz.prog 7 #[.slice (some ⟨W.heap.size, 0, none⟩) 1 1, .int .i64 5] (W.alloc (.cells #[.string ⟨#[]⟩, .string ⟨#[]⟩] 26)) fun e w' => e = .returned (.pointer none) ∧ Flock w w' 0 [(p, kn4)] from fun W p h =>
    flock_of_none h ((Below.refl _ W).alloc (Nat.le_refl _) _) 5 (by decide) (frow_laid emF W) (by decide) (by decide) em_of)
  have QE2 := Lib.hid (show ∀ W p, Flock w W 0 [(p, kn4)] → Calls Tryz.prog 7 #[.slice (some ⟨W.heap.size, 0, none⟩) 2 2, .int .i64 5] (W.alloc (.cells #[.string ⟨#[113]⟩, .string ⟨#[]⟩, .string ⟨#[113]⟩, .string ⟨#[]⟩] 26)) fun e w' => e = .returned (.pointer none) ∧ Flock w w' 0 [(p, kn4)] from fun W p h =>
    flock_of_none h ((Below.refl _ W).alloc (Nat.le_refl _) _) 5 (by decide) (frow_laid qqF W) (by decide) (by decide) qq_of)
  have QX5 := Lib.hid (show ∀ W p, Flock w W 0 [(p, kn4)] → Calls Tryz.prog 13 #[.pointer (some ⟨p, 0, none⟩), .string ⟨#[110, 111, 110, 101]⟩, .slice (some ⟨W.heap.size, 0, none⟩) 1 1] (W.alloc (.cells #[.string ⟨#[120]⟩] 9)) fun e w' => e = .returned (.int .i64 9) ∧ Flock w w' 0 [(p, kn5)] from fun W p h =>
    (flock_append1 h 0 Nat.zero_lt_one (Nat.le_refl _) (sized_kn4.fit (by decide) (by decide) (by decide)) ⟨#[110, 111, 110, 101]⟩ ⟨#[120]⟩ (by decide) (by decide)).mono fun e w' ⟨he, hw⟩ => ⟨by rw [he]; exact congrArg (fun k : Nat => Ending.returned (.int .i64 (k : Int))) kn5_e, hw⟩)
  have QX6 := Lib.hid (show ∀ W p, Flock w W 0 [(p, kn5)] → Calls Tryz.prog 22 #[.pointer (some ⟨p, 0, none⟩), .string ⟨#[110, 111, 110, 101]⟩] W fun e w' => e = .returned (.int .i64 9) ∧ Flock w w' 0 [(p, kn6)] from fun W p h =>
    (flock_sync h 0 Nat.zero_lt_one (Nat.le_refl _) (sized_kn5.fit (by decide) (by decide) (by decide)) ⟨#[110, 111, 110, 101]⟩ (by decide)).mono fun e w' ⟨he, hw⟩ => ⟨by rw [he]; exact congrArg (fun k : Nat => Ending.returned (.int .i64 (k : Int))) kn6_e, hw⟩)
  have QX7 := Lib.hid (show ∀ W p, Flock w W 0 [(p, kn6)] → Calls Tryz.prog 20 #[.pointer (some ⟨p, 0, none⟩), .string ⟨#[110, 111, 110, 101]⟩, .int .i64 0] W fun e w' => e = .returned (.int .i64 9) ∧ Flock w w' 0 [(p, kn7)] from fun W p h =>
    (flock_truncate h 0 Nat.zero_lt_one (Nat.le_refl _) (sized_kn6.fit (by decide) (by decide) (by decide)) ⟨#[110, 111, 110, 101]⟩ (by decide) 0 (by decide) (by decide)).mono fun e w' ⟨he, hw⟩ => ⟨by rw [he]; exact congrArg (fun k : Nat => Ending.returned (.int .i64 (k : Int))) kn7_e, hw⟩)
  have QX8 := Lib.hid (show ∀ W p, Flock w W 0 [(p, kn7)] → Calls Tryz.prog 20 #[.pointer (some ⟨p, 0, none⟩), .string ⟨#[97]⟩, .int .i64 2] W fun e w' => e = .returned (.int .i64 17) ∧ Flock w w' 0 [(p, kn8)] from fun W p h =>
    (flock_truncate h 0 Nat.zero_lt_one (Nat.le_refl _) (sized_kn7.fit (by decide) (by decide) (by decide)) ⟨#[97]⟩ (by decide) 2 (by decide) (by decide)).mono fun e w' ⟨he, hw⟩ => ⟨by rw [he]; exact congrArg (fun k : Nat => Ending.returned (.int .i64 (k : Int))) kn8_e, hw⟩)
  have QX9 := Lib.hid (show ∀ W p, Flock w W 0 [(p, kn8)] → Calls Tryz.prog 26 #[.pointer (some ⟨p, 0, none⟩), .string ⟨#[110, 111, 110, 101]⟩, .string ⟨#[97]⟩] W fun e w' => e = .returned (.int .i64 9) ∧ Flock w w' 0 [(p, kn9)] from fun W p h =>
    (flock_rename h 0 Nat.zero_lt_one (Nat.le_refl _) (sized_kn8.fit (by decide) (by decide) (by decide)) ⟨#[110, 111, 110, 101]⟩ ⟨#[97]⟩ (by decide) (by decide)).mono fun e w' ⟨he, hw⟩ => ⟨by rw [he]; exact congrArg (fun k : Nat => Ending.returned (.int .i64 (k : Int))) kn9_e, hw⟩)
  have QX10 := Lib.hid (show ∀ W p, Flock w W 0 [(p, kn9)] → Calls Tryz.prog 27 #[.pointer (some ⟨p, 0, none⟩), .string ⟨#[110, 111, 110, 101]⟩] W fun e w' => e = .returned (.int .i64 9) ∧ Flock w w' 0 [(p, kn10)] from fun W p h =>
    (flock_remove h 0 Nat.zero_lt_one (Nat.le_refl _) (sized_kn9.fit (by decide) (by decide) (by decide)) ⟨#[110, 111, 110, 101]⟩ (by decide)).mono fun e w' ⟨he, hw⟩ => ⟨by rw [he]; exact congrArg (fun k : Nat => Ending.returned (.int .i64 (k : Int))) kn10_e, hw⟩)
  have QX11 := Lib.hid (show ∀ W p, Flock w W 0 [(p, kn10)] → Calls Tryz.prog 12 #[.pointer (some ⟨p, 0, none⟩), .string ⟨#[97]⟩] W fun e w' => e = .returned (.int .i64 8) ∧ Flock w w' 0 [(p, kn11)] from fun W p h =>
    (flock_create h 0 Nat.zero_lt_one (Nat.le_refl _) (sized_kn10.fit (by decide) (by decide) (by decide)) ⟨#[97]⟩ (by decide)).mono fun e w' ⟨he, hw⟩ => ⟨by rw [he]; exact congrArg (fun k : Nat => Ending.returned (.int .i64 (k : Int))) kn11_e, hw⟩)
  have QX12 := Lib.hid (show ∀ W p, Flock w W 0 [(p, kn11)] → Calls Tryz.prog 12 #[.pointer (some ⟨p, 0, none⟩), .string ⟨#[]⟩] W fun e w' => e = .returned (.int .i64 2) ∧ Flock w w' 0 [(p, kn12)] from fun W p h =>
    (flock_create h 0 Nat.zero_lt_one (Nat.le_refl _) (sized_kn11.fit (by decide) (by decide) (by decide)) ⟨#[]⟩ (by decide)).mono fun e w' ⟨he, hw⟩ => ⟨by rw [he]; exact congrArg (fun k : Nat => Ending.returned (.int .i64 (k : Int))) kn12_e, hw⟩)
  go_enter Tryz.func6, Tryz.ntmps6
  go_wp2_with (first
    | (go_at_call 17; go_must (with_reducible refine HW.out.mono ?_); rintro e w1 ⟨rfl, hq⟩; have B1 := Lib.hid ((flock_nil w).next hq); clear hq)
    | (go_at_call 7; first
      | ((with_reducible refine (QE2.out _ _ E1.out).mono ?_); rintro e wx ⟨rfl, hq⟩; have E2 := Lib.hid hq; clear hq)
      | ((with_reducible refine (QE1.out _ _ E0.out).mono ?_); rintro e wx ⟨rfl, hq⟩; have E1 := Lib.hid hq; clear hq)
      | ((with_reducible refine (of_less _ (by decide)).mono ?_); rintro e wx ⟨rfl, rfl⟩)
      | ((with_reducible refine (QOV.out _ _ _ _ _ H5.out).mono ?_); rintro e wx ⟨o, rfl, hq⟩; have O0 := Lib.hid hq; clear hq)
      | ((with_reducible refine (QOF.out _ B1.out).mono ?_); rintro e wx ⟨p, rfl, hq⟩; have D0 := Lib.hid hq; clear hq))
    | (go_at_call 12; first
      | ((with_reducible refine (nil_create _ _).mono ?_); rintro e wx ⟨rfl, hq⟩; have Z1 := Lib.hid (Below.next E10.out.below hq); clear hq)
      | ((with_reducible refine (QX12.out _ _ E9.out).mono ?_); rintro e wx ⟨rfl, hq⟩; have E10 := Lib.hid hq; clear hq)
      | ((with_reducible refine (QX11.out _ _ E8.out).mono ?_); rintro e wx ⟨rfl, hq⟩; have E9 := Lib.hid hq; clear hq)
      | ((with_reducible refine (QC1.out _ _ D0.out).mono ?_); rintro e wx ⟨rfl, hq⟩; have D1 := Lib.hid hq; clear hq))
    | (go_at_call 13; first
      | ((with_reducible refine (nil_append _ _ _ _ _).mono ?_); rintro e wx ⟨rfl, hq⟩; have Z2 := Lib.hid (Below.next Z1.out hq); clear hq)
      | ((with_reducible refine (QX5.out _ _ E2.out).mono ?_); rintro e wx ⟨rfl, hq⟩; have E3 := Lib.hid hq; clear hq)
      | ((with_reducible refine (QA3.out _ _ _ _ _ _ O1.out).mono ?_); rintro e wx ⟨rfl, hq⟩; have O2 := Lib.hid hq; clear hq)
      | ((with_reducible refine (QA2.out _ _ _ _ _ _ O0.out).mono ?_); rintro e wx ⟨rfl, hq⟩; have O1 := Lib.hid hq; clear hq)
      | ((with_reducible refine (QA1.out _ _ D1.out).mono ?_); rintro e wx ⟨rfl, hq⟩; have D2 := Lib.hid hq; clear hq))
    | (go_at_call 22; first
      | ((with_reducible refine (QX6.out _ _ E3.out).mono ?_); rintro e wx ⟨rfl, hq⟩; have E4 := Lib.hid hq; clear hq)
      | ((with_reducible refine (QY1.out _ _ D2.out).mono ?_); rintro e wx ⟨rfl, hq⟩; have D3 := Lib.hid hq; clear hq))
    | (go_at_call 26; first
      | ((with_reducible refine (QX9.out _ _ E6.out).mono ?_); rintro e wx ⟨rfl, hq⟩; have E7 := Lib.hid hq; clear hq)
      | ((with_reducible refine (QN1.out _ _ D3.out).mono ?_); rintro e wx ⟨rfl, hq⟩; have D4 := Lib.hid (hq.mono (Nat.zero_le 1)); clear hq))
    | (go_at_call 11; first
      | ((with_reducible refine (nil_copy _).mono ?_); rintro e wx ⟨rfl, rfl⟩)
      | ((with_reducible refine (QP3.out _ _ _ _ G1.out).mono ?_); rintro e wx ⟨s, rfl, hq⟩; have H0 := Lib.hid hq; clear hq)
      | ((with_reducible refine (QP2.out _ _ _ F1.out).mono ?_); rintro e wx ⟨r, rfl, hq⟩; have G0 := Lib.hid hq; clear hq)
      | ((with_reducible refine (QP1.out _ _ D4.out).mono ?_); rintro e wx ⟨q, rfl, hq⟩; have F0 := Lib.hid hq; clear hq))
    | (go_at_call 14; first
      | ((with_reducible refine (QR3.out _ _ _ _ _ H0.out).mono ?_); rintro e wx ⟨rfl, hq⟩; have H1 := Lib.hid hq; clear hq)
      | ((with_reducible refine (QR2.out _ _ _ _ G0.out).mono ?_); rintro e wx ⟨rfl, hq⟩; have G1 := Lib.hid hq; clear hq)
      | ((with_reducible refine (QR1.out _ _ _ F0.out).mono ?_); rintro e wx ⟨rfl, hq⟩; have F1 := Lib.hid hq; clear hq))
    | (go_at_call 35; first
      | ((with_reducible refine (QHH.out _ _ _ _ _ H4.out).mono ?_); rintro e wx ⟨rfl, hq⟩; have H5 := Lib.hid hq; clear hq)
      | ((with_reducible refine (QHG.out _ _ _ _ _ H3.out).mono ?_); rintro e wx ⟨rfl, hq⟩; have H4 := Lib.hid hq; clear hq)
      | ((with_reducible refine (QHF.out _ _ _ _ _ H2.out).mono ?_); rintro e wx ⟨rfl, hq⟩; have H3 := Lib.hid hq; clear hq)
      | ((with_reducible refine (QHD.out _ _ _ _ _ H1.out).mono ?_); rintro e wx ⟨rfl, hq⟩; have H2 := Lib.hid hq; clear hq))
    | (go_at_call 19; first
      | ((with_reducible refine (nil_used _).mono ?_); rintro e wx ⟨rfl, rfl⟩)
      | ((with_reducible refine (QU2.out _ _ _ _ _ _ O2.out).mono ?_); rintro e wx ⟨rfl, rfl⟩)
      | ((with_reducible refine (QU1.out _ _ _ _ _ H2.out).mono ?_); rintro e wx ⟨rfl, rfl⟩))
    | (go_at_call 23; first
      | ((with_reducible refine (QT2.out _ _ _ _ _ H5.out).mono ?_); rintro e wx ⟨rfl, rfl⟩)
      | ((with_reducible refine (QT1.out _ _ _ _ _ H5.out).mono ?_); rintro e wx ⟨rfl, rfl⟩))
    | (go_at_call 34; go_must ((with_reducible refine (QS1.out _ _ _ _ _ H5.out).mono ?_); rintro e wx ⟨rfl, rfl⟩))
    | (go_at_call 36; first
      | ((with_reducible refine (nil_quota _).mono ?_); rintro e wx ⟨rfl, rfl⟩)
      | ((with_reducible refine (QQ2.out _ _ _ _ _ _ O2.out).mono ?_); rintro e wx ⟨rfl, rfl⟩))
    | (go_at_call 37; first
      | ((with_reducible refine (nil_steps _).mono ?_); rintro e wx ⟨rfl, rfl⟩)
      | ((with_reducible refine (QS2.out _ _ _ _ _ _ O2.out).mono ?_); rintro e wx ⟨rfl, rfl⟩))
    | (go_at_call 9; go_must ((with_reducible refine (new_none _ (by decide)).mono ?_); rintro e wx ⟨rfl, rfl⟩; have E0 := Lib.hid ((O2.out.take 1).one)))
    | (go_at_call 20; first
      | ((with_reducible refine (QX8.out _ _ E5.out).mono ?_); rintro e wx ⟨rfl, hq⟩; have E6 := Lib.hid hq; clear hq)
      | ((with_reducible refine (QX7.out _ _ E4.out).mono ?_); rintro e wx ⟨rfl, hq⟩; have E5 := Lib.hid hq; clear hq))
    | (go_at_call 27; go_must ((with_reducible refine (QX10.out _ _ E7.out).mono ?_); rintro e wx ⟨rfl, hq⟩; have E8 := Lib.hid hq; clear hq))
    | (go_at_call 24; go_must ((with_reducible refine (nil_syncDir _).mono ?_); rintro e wx ⟨rfl, hq⟩; have Z3 := Lib.hid (Below.next Z2.out hq); clear hq))
    | (go_at_call 32; go_must ((with_reducible refine (nil_down _).mono ?_); rintro e wx ⟨rfl, rfl⟩))
    | (go_at_call 33; go_must ((with_reducible refine (nil_list _).mono ?_); rintro e wx ⟨rfl, hq⟩; have Z4 := Lib.hid (Below.next Z3.out hq); clear hq))
    | (go_at_call 28; go_must ((with_reducible refine (nil_files _).mono ?_); rintro e wx ⟨rfl, hq⟩; have Z5 := Lib.hid (Below.next Z4.out hq); clear hq)))
  go_ret
  exact ⟨rfl, Z5.out⟩
end Go.Proofs.YtmmoilmfpiclgaaGreat

/-
  Flocks: a new disk, a restart, an append of one text; what stays of how great they are. The law's own disk: example. What the law's works reckons. The chapter's examples: works. Two disks, one of them armed: what they do alike. A restart by great numbers keeps all. Flocks beside a block of the walk's own. A disk of its own, alike: the call. Flocks: copies, disks of files, rows of texts; calls of a disk that is none.
-/
import Derived.Test.YtmmoilmfpiclgaaGreatG30
import Derived.Test.YtmmoilmfpiclgaaGreatG28
import Derived.Test.YtmmoilmfpiclgaaGreatG31
import Derived.Test.YtmmoilmfpiclgaaGreatG27
import Derived.Test.YtmmoilmfpiclgaaGreatG26
import Derived.Test.YtmmoilmfpiclgaaGreatG24
import Derived.Test.YtmmoilmfpiclgaaGreatG29
import Derived.Deep.CutRange
import Derived.Deep.RegionHeld3
import Derived.Maps.RangeWalk
namespace Go.Proofs.YtmmoilmfpiclgaaGreat
open Go.RowKit Go.Shelf
open Fld (FS Names FAct actsOn foundN foundB findT withT withoutT GoodN Rising mayB nam nameMax FolderS FolderIn ARow textsOf)

theorem light_new (q : Nat) : (DS.new q).Light 0 0 := ⟨Nat.le_refl _, fun _ => Nat.le_refl _, fun _ => Nat.le_refl _, Nat.le_refl _⟩
theorem rest_acts (T : Names) (l : List Nat) (f : Nat → FileS) {a : Nat} (h : ∀ n, (f n).A.length ≤ a) : ∀ k n, (restFile T l f k n).A.length ≤ a
  | 0, n => h n
  | k + 1, n => by
    show (upd (restFile T l f k) (nam T k).2 _ n).A.length ≤ a
    unfold upd
    split
    · exact Nat.zero_le _
    · exact rest_acts T l f h k n
theorem light_restart {S : DS} {a b : Nat} (h : S.Light a b) (l : List Nat) : (S.restart l).Light a b :=
  ⟨Nat.le_trans (Fld.weight_survive S.fold _) h.fold, rest_acts _ l S.file h.acts _, rest_heft _ l S.file h.heft _, h.steps⟩
theorem doing_room (S : DS) (g : DS → DS × Nat) (hg : ∀ T : DS, (g T).1.room = T.room) : (S.doing g).1.room = S.room := by
  unfold DS.doing
  split
  · rfl
  · exact hg _
theorem room_create (S : DS) (s : ByteArray) : (S.create s).1.room = S.room := doing_room S _ fun _ => rfl
theorem room_rename (S : DS) (s t : ByteArray) : (S.rename s t).1.room = S.room := doing_room S _ fun _ => rfl
theorem room_remove (S : DS) (s : ByteArray) : (S.remove s).1.room = S.room := doing_room S _ fun _ => rfl
theorem room_syncDir (S : DS) : S.syncDir.1.room = S.room := doing_room S _ fun _ => rfl
theorem change_room (S : DS) (s : ByteArray) (g : FileS → FileS × Nat) : (S.change s g).1.room = S.room := doing_room S _ fun T => by
  show (T.change0 s g).1.room = T.room
  unfold DS.change0
  split <;> rfl
theorem room_append (S : DS) (s : ByteArray) (x : List UInt8) : (S.append s x).1.room = S.room := change_room S s _
theorem room_truncate (S : DS) (s : ByteArray) (k : Int) : (S.truncate s k).1.room = S.room := change_room S s _
theorem room_sync (S : DS) (s : ByteArray) : (S.sync s).1.room = S.room := change_room S s _

/-- A disk's size, step by step: at most a acts, b bytes, q in all. -/
structure DS.Sized (S : DS) (a b q : Nat) : Prop where
  light : S.Light a b
  room : S.room = q
theorem DS.Sized.fit {S : DS} {a b q : Nat} (h : S.Sized a b q) (ha : a ≤ 900) (hb : b ≤ 90000) (hq : q ≤ 10000) : S.Fit := ⟨h.light.mono ha hb, by rw [h.room]; exact hq⟩
theorem sized_new (q : Nat) : (DS.new q).Sized 0 0 q := ⟨light_new q, rfl⟩
theorem sized_create {S : DS} {a b q : Nat} (h : S.Sized a b q) (s : ByteArray) : (S.create s).1.Sized (a + 3) b q := ⟨light_create h.light s, (room_create S s).trans h.room⟩
theorem sized_rename {S : DS} {a b q : Nat} (h : S.Sized a b q) (s t : ByteArray) : (S.rename s t).1.Sized (a + 3) b q := ⟨light_rename h.light s t, (room_rename S s t).trans h.room⟩
theorem sized_remove {S : DS} {a b q : Nat} (h : S.Sized a b q) (s : ByteArray) : (S.remove s).1.Sized (a + 3) b q := ⟨light_remove h.light s, (room_remove S s).trans h.room⟩
theorem sized_syncDir {S : DS} {a b q : Nat} (h : S.Sized a b q) : S.syncDir.1.Sized (a + 3) b q := ⟨light_syncDir h.light, (room_syncDir S).trans h.room⟩
theorem sized_append {S : DS} {a b q : Nat} (h : S.Sized a b q) (s : ByteArray) (x : List UInt8) : (S.append s x).1.Sized (a + 3) (b + q) q := ⟨light_append h.light s x (by have := h.room; omega), (room_append S s x).trans h.room⟩
theorem sized_truncate {S : DS} {a b q : Nat} (h : S.Sized a b q) (s : ByteArray) (k : Int) : (S.truncate s k).1.Sized (a + 3) b q := ⟨light_truncate h.light s k, (room_truncate S s k).trans h.room⟩
theorem sized_sync {S : DS} {a b q : Nat} (h : S.Sized a b q) (s : ByteArray) : (S.sync s).1.Sized (a + 3) b q := ⟨light_sync h.light s, (room_sync S s).trans h.room⟩
theorem sized_restart {S : DS} {a b q : Nat} (h : S.Sized a b q) (l : List Nat) : (S.restart l).Sized a b q := ⟨light_restart h.light l, h.room⟩
theorem DS.Sized.arm {S : DS} {a b q : Nat} (h : S.Sized a b q) (k : Int) : (S.arm k).Sized a b q := ⟨h.light.arm k, h.room⟩

theorem flock_new {w0 W : World} {n : Nat} {L : List (Nat × DS)} (h : Flock w0 W n L) (q : Nat) (hq : q ≤ 1000000000000) :
    Calls Tryz.prog 9 #[.int .i64 (q : Int)] W fun e w' => ∃ p, e = .returned (.pointer (some ⟨p, 0, none⟩)) ∧ Flock w0 w' n (L ++ [(p, DS.new q)]) := by
  refine (disk_new W q hq).mono ?_
  rintro e w' ⟨p, v, rfl, hd, hu, hb⟩
  exact ⟨p, rfl, h.add hd hu hb⟩

/-- Disks that a call made beside ours. -/
theorem Flock.join {w0 W W' : World} {n : Nat} {L : List (Nat × DS)} (h : Flock w0 W n L) {p : Nat} {S : DS} (k : Flock W W' 0 [(p, S)]) : Flock w0 W' n (L ++ [(p, S)]) := by
  have hb := k.below
  obtain ⟨vs, hv⟩ := k
  have h0 : 0 < vs.length := by rw [hv.len]; exact Nat.zero_lt_one
  obtain ⟨h1, h2⟩ := hv.disk 0 Nat.zero_lt_one h0
  exact h.add h1 h2 hb

theorem flock_restart {w0 W1 W : World} {n : Nat} {L : List (Nat × DS)} (h : Flock w0 W1 n L) (hb : Below W1.heap.size W1 W) (i : Nat) (hi : i < L.length) (hn : n ≤ i) (hf : L[i].2.Fit) {l : List Nat} {lv : Value} (hr : Row16 W lv l) (hll : l.length ≤ 1000000)
    (hlv : ∀ b o n c, lv = .slice (some ⟨b, o, none⟩) n c → (W1.heap.size ≤ b ∨ b < w0.heap.size) ∧ b < W.heap.size) (h16 : ∀ i, num l i ≤ 65535) :
    Calls Tryz.prog 14 #[.pointer (some ⟨L[i].1, 0, none⟩), lv] W fun e w' => e = .returned (.tuple #[]) ∧ Flock w0 w' n (L.set i (L[i].1, L[i].2.restart l)) := by
  obtain ⟨vs, hv⟩ := h
  have hi' : i < vs.length := by have := hv.len; omega
  have hv2 : FlockV w0 W n L vs := ⟨hv.len, fun j hj hj' => ⟨(hv.disk j hj hj').1.below hb, (hv.disk j hj hj').2⟩, hv.apart, Below.next hv.below hb⟩
  refine (disk_restart (hv2.disk i hi hi').1 hf.weight (fun m => Nat.le_trans (hf.1.acts m) (by decide)) (fun m => Nat.le_trans (hf.1.heft m) (by decide)) hr hll (fun b o m c e => ?_) h16).mono fun e w' ⟨he, hw⟩ => ⟨he, hv2.went i hi hi' hn hw⟩
  obtain ⟨h1, h2⟩ := hlv b o m c e
  refine ⟨fun hm => ?_, h2⟩
  have h3 := (hv.disk i hi hi').1.blocks b (.inl hm)
  have h4 := (hv.disk i hi hi').2 b (.inl hm)
  omega

/-- One text, laid behind them. -/
theorem flock_appendB {w0 W1 W : World} {n : Nat} {L : List (Nat × DS)} (h : Flock w0 W1 n L) (hb : Below W1.heap.size W1 W) (i : Nat) (hi : i < L.length) (hn : n ≤ i) (hf : L[i].2.Fit) (s x : ByteArray) (hs : s.size ≤ nameMax) (hx : x.size ≤ 140737488355328) {b : Nat} (hblk : W.heap[b]? = some (.cells #[.string x] 9 (0, 0))) :
    Calls Tryz.prog 13 #[.pointer (some ⟨L[i].1, 0, none⟩), .string s, .slice (some ⟨b, 0, none⟩) 1 1] W fun e w' => e = .returned (.int .i64 (((L[i].2.append s x.data.toList).2 : Nat) : Int)) ∧ Flock w0 w' n (L.set i (L[i].1, (L[i].2.append s x.data.toList).1)) :=
  flock_append (h.next hb) i hi hn hf s x hs ⟨_, _, _, rfl⟩ (Nat.le_trans hx (by decide)) fun W' hk => join_one hx (hk _ _ _ hblk (by decide))
theorem flock_append1 {w0 W : World} {n : Nat} {L : List (Nat × DS)} (h : Flock w0 W n L) (i : Nat) (hi : i < L.length) (hn : n ≤ i) (hf : L[i].2.Fit) (s x : ByteArray) (hs : s.size ≤ nameMax) (hx : x.size ≤ 140737488355328) :
    Calls Tryz.prog 13 #[.pointer (some ⟨L[i].1, 0, none⟩), .string s, .slice (some ⟨W.heap.size, 0, none⟩) 1 1] (W.alloc (.cells #[.string x] 9)) fun e w' => e = .returned (.int .i64 (((L[i].2.append s x.data.toList).2 : Nat) : Int)) ∧ Flock w0 w' n (L.set i (L[i].1, (L[i].2.append s x.data.toList).1)) :=
  flock_appendB h ((Below.refl _ W).alloc (Nat.le_refl _) _) i hi hn hf s x hs hx (heap_alloc_new W _)
end Go.Proofs.YtmmoilmfpiclgaaGreat
namespace Go.Proofs.YtmmoilmfpiclgaaGreat
open Go.RowKit Go.Shelf

def exC : DS := ((DS.new 10).create ⟨#[97]⟩).1
def exA : DS := (exC.append ⟨#[97]⟩ [120, 121]).1
def exY : DS := (exA.sync ⟨#[97]⟩).1
def exN : DS := exY.syncDir.1
def exE : DS := (exN.append ⟨#[97]⟩ [122]).1
theorem sized_exC : exC.Sized 3 0 10 := sized_create (sized_new 10) _
theorem sized_exA : exA.Sized 6 10 10 := sized_append sized_exC _ _
theorem sized_exY : exY.Sized 9 10 10 := sized_sync sized_exA _
theorem sized_exN : exN.Sized 12 10 10 := sized_syncDir sized_exY
theorem sized_exE : exE.Sized 15 20 10 := sized_append sized_exN _ _

theorem one_get (x : Nat × DS) (h : 0 < [x].length) : [x][0]'h = x := rfl
set_option maxHeartbeats 2000000 in
set_option maxRecDepth 100000 in
theorem example_any (w : World) : Calls Tryz.prog 74 #[] w fun e w' => ∃ p, e = .returned (.pointer (some ⟨p, 0, none⟩)) ∧ Flock w w' 0 [(p, exE)] := by
  have QN := Lib.hid (show Calls Tryz.prog 9 #[.int .i64 10] w fun e w' => ∃ p, e = .returned (.pointer (some ⟨p, 0, none⟩)) ∧ Flock w w' 0 [(p, DS.new 10)] from flock_new (flock_nil w) 10 (by decide))
  have QC := Lib.hid (show ∀ W p, Flock w W 0 [(p, DS.new 10)] → Calls Tryz.prog 12 #[.pointer (some ⟨p, 0, none⟩), .string ⟨#[97]⟩] W fun e w' => (∃ k : Nat, e = .returned (.int .i64 (k : Int))) ∧ Flock w w' 0 [(p, exC)] from fun W p h =>
    (flock_create h 0 Nat.zero_lt_one (Nat.le_refl _) ((sized_new 10).fit (by decide) (by decide) (by decide)) ⟨#[97]⟩ (by decide)).mono fun e w' ⟨he, hw⟩ => ⟨⟨_, he⟩, hw⟩)
  have QA := Lib.hid (show ∀ W p, Flock w W 0 [(p, exC)] → Calls Tryz.prog 13 #[.pointer (some ⟨p, 0, none⟩), .string ⟨#[97]⟩, .slice (some ⟨W.heap.size, 0, none⟩) 1 1] (W.alloc (.cells #[.string ⟨#[120, 121]⟩] 9)) fun e w' => (∃ k : Nat, e = .returned (.int .i64 (k : Int))) ∧ Flock w w' 0 [(p, exA)] from fun W p h =>
    (flock_append1 h 0 Nat.zero_lt_one (Nat.le_refl _) (sized_exC.fit (by decide) (by decide) (by decide)) ⟨#[97]⟩ ⟨#[120, 121]⟩ (by decide) (by decide)).mono fun e w' ⟨he, hw⟩ => ⟨⟨_, he⟩, hw⟩)
  have QY := Lib.hid (show ∀ W p, Flock w W 0 [(p, exA)] → Calls Tryz.prog 22 #[.pointer (some ⟨p, 0, none⟩), .string ⟨#[97]⟩] W fun e w' => (∃ k : Nat, e = .returned (.int .i64 (k : Int))) ∧ Flock w w' 0 [(p, exY)] from fun W p h =>
    (flock_sync h 0 Nat.zero_lt_one (Nat.le_refl _) (sized_exA.fit (by decide) (by decide) (by decide)) ⟨#[97]⟩ (by decide)).mono fun e w' ⟨he, hw⟩ => ⟨⟨_, he⟩, hw⟩)
  have QD := Lib.hid (show ∀ W p, Flock w W 0 [(p, exY)] → Calls Tryz.prog 24 #[.pointer (some ⟨p, 0, none⟩)] W fun e w' => (∃ k : Nat, e = .returned (.int .i64 (k : Int))) ∧ Flock w w' 0 [(p, exN)] from fun W p h =>
    (flock_syncDir h 0 Nat.zero_lt_one (Nat.le_refl _) (sized_exY.fit (by decide) (by decide) (by decide))).mono fun e w' ⟨he, hw⟩ => ⟨⟨_, he⟩, hw⟩)
  have QE := Lib.hid (show ∀ W p, Flock w W 0 [(p, exN)] → Calls Tryz.prog 13 #[.pointer (some ⟨p, 0, none⟩), .string ⟨#[97]⟩, .slice (some ⟨W.heap.size, 0, none⟩) 1 1] (W.alloc (.cells #[.string ⟨#[122]⟩] 9)) fun e w' => (∃ k : Nat, e = .returned (.int .i64 (k : Int))) ∧ Flock w w' 0 [(p, exE)] from fun W p h =>
    (flock_append1 h 0 Nat.zero_lt_one (Nat.le_refl _) (sized_exN.fit (by decide) (by decide) (by decide)) ⟨#[97]⟩ ⟨#[122]⟩ (by decide) (by decide)).mono fun e w' ⟨he, hw⟩ => ⟨⟨_, he⟩, hw⟩)
  go_enter Tryz.func74, Tryz.ntmps74
  go_wp2_with (first
    | (go_at_call 9; go_must (with_reducible refine QN.out.mono ?_); rintro e w1 ⟨p, rfl, hq⟩; have H1 := Lib.hid hq; clear hq)
    | (go_at_call 12; go_must (with_reducible refine (QC.out _ _ H1.out).mono ?_); rintro e w2 ⟨⟨k2, rfl⟩, hq⟩; have H2 := Lib.hid hq; clear hq)
    | (go_at_call 22; go_must (with_reducible refine (QY.out _ _ H3.out).mono ?_); rintro e w4 ⟨⟨k4, rfl⟩, hq⟩; have H4 := Lib.hid hq; clear hq)
    | (go_at_call 24; go_must (with_reducible refine (QD.out _ _ H4.out).mono ?_); rintro e w5 ⟨⟨k5, rfl⟩, hq⟩; have H5 := Lib.hid hq; clear hq)
    | (go_at_call 13; first
      | ((with_reducible refine (QE.out _ _ H5.out).mono ?_); rintro e w6 ⟨⟨k6, rfl⟩, hq⟩; have H6 := Lib.hid hq; clear hq)
      | ((with_reducible refine (QA.out _ _ H2.out).mono ?_); rintro e w3 ⟨⟨k3, rfl⟩, hq⟩; have H3 := Lib.hid hq; clear hq)))
  go_ret
  exact ⟨_, rfl, H6.out⟩
end Go.Proofs.YtmmoilmfpiclgaaGreat
namespace Go.Proofs.YtmmoilmfpiclgaaGreat
open Go.RowKit Go.Shelf

def wd0 : DS := DS.new 10
def wd1 : DS := (wd0.create ⟨#[97]⟩).1
def wd2 : DS := (wd1.append ⟨#[97]⟩ [104, 101, 108, 108, 111]).1
def wd3 : DS := (wd2.append ⟨#[97]⟩ [119, 111, 114, 108, 100, 33]).1
def wd4 : DS := wd3.restart []
def exR0 : DS := exE.restart [0]
def exR1 : DS := exE.restart [0, 1]
def wg0 : DS := wd0.arm 2
def wg1 : DS := (wg0.create ⟨#[98]⟩).1
def wg2 : DS := (wg1.create ⟨#[99]⟩).1
def wg3 : DS := (wg2.create ⟨#[100]⟩).1
theorem sized_wd0 : wd0.Sized 0 0 10 := sized_new 10
theorem sized_wd1 : wd1.Sized 3 0 10 := sized_create sized_wd0 _
theorem sized_wd2 : wd2.Sized 6 10 10 := sized_append sized_wd1 _ _
theorem sized_wd3 : wd3.Sized 9 20 10 := sized_append sized_wd2 _ _
theorem sized_wd4 : wd4.Sized 9 20 10 := sized_restart sized_wd3 _
theorem sized_exR0 : exR0.Sized 15 20 10 := sized_restart sized_exE _
theorem sized_exR1 : exR1.Sized 15 20 10 := sized_restart sized_exE _
theorem sized_wg0 : wg0.Sized 0 0 10 := sized_wd0.arm 2
theorem sized_wg1 : wg1.Sized 3 0 10 := sized_create sized_wg0 _
theorem sized_wg2 : wg2.Sized 6 0 10 := sized_create sized_wg1 _
theorem sized_wg3 : wg3.Sized 9 0 10 := sized_create sized_wg2 _

theorem wd1_e : (wd0.create ⟨#[97]⟩).2 = 0 := by decide +kernel
theorem wd2_e : (wd1.append ⟨#[97]⟩ [104, 101, 108, 108, 111]).2 = 0 := by decide +kernel
theorem wd3_e : (wd2.append ⟨#[97]⟩ [119, 111, 114, 108, 100, 33]).2 = 10 := by decide +kernel
theorem wd3_files : wd3.files = [([97], [104, 101, 108, 108, 111, 119, 111, 114, 108, 100])] := by decide +kernel
theorem wd4_listed : wd4.listed = [] := by decide +kernel
theorem exR0_files : exR0.files = [([97], [120, 121])] := by decide +kernel
theorem exR1_files : exR1.files = [([97], [120, 121, 122])] := by decide +kernel
theorem wg1_e : (wg0.create ⟨#[98]⟩).2 = 0 := by decide +kernel
theorem wg2_e : (wg1.create ⟨#[99]⟩).2 = 13 := by decide +kernel
theorem wg3_e : (wg2.create ⟨#[100]⟩).2 = 13 := by decide +kernel
theorem wg3_down : wg3.down = true := by decide +kernel
end Go.Proofs.YtmmoilmfpiclgaaGreat
namespace Go.Proofs.YtmmoilmfpiclgaaGreat
open Go.RowKit Go.Shelf
open Fld (FS Names FAct actsOn foundN foundB findT withT withoutT GoodN Rising mayB nam nameMax FolderS FolderIn ARow textsOf)

theorem strs_two (a b : ByteArray) (W : World) : Strs (W.alloc (.cells #[.string a, .string b] 9)) (.slice (some ⟨W.heap.size, 0, none⟩) 2 2) [a, b] := by
  refine ⟨_, _, rfl, fun i hi => ⟨_, _, rfl, ?_⟩⟩
  rw [World.cell?_alloc_at (hn := rfl)]
  have : i = 0 ∨ i = 1 := by simp at hi; omega
  rcases this with rfl | rfl <;> rfl

theorem has_one {w0 W : World} {n : Nat} {L : List (Nat × DS)} (h : Flock w0 W n L) (i : Nat) (hi : i < L.length) (hf : L[i].2.Fit) (a b : ByteArray) (hl : L[i].2.files = [(a.data.toList, b.data.toList)]) :
    Calls Tryz.prog 35 #[.pointer (some ⟨L[i].1, 0, none⟩), .slice (some ⟨W.heap.size, 0, none⟩) 2 2] (W.alloc (.cells #[.string a, .string b] 9)) fun e w' => e = .returned (.bool true) ∧ Flock w0 w' n L := by
  have hb : Below W.heap.size W (W.alloc (.cells #[.string a, .string b] 9)) := (Below.refl _ W).alloc (Nat.le_refl _) _
  refine (h.next hb).read i hi fun v hv => ?_
  refine (has_true hv hf.weight (strs_two a b W) (by rw [hl]; rfl) (by rw [hl]; simp) (fun k hk => ?_)).mono fun e w' ⟨he, hw⟩ => ⟨he, (h.next hb).next hw⟩
  rw [hl] at hk ⊢
  obtain rfl : k = 0 := by simp at hk; omega
  exact ⟨rfl, rfl⟩

theorem row16_one (k : Nat) (hk : k ≤ 65535) (W : World) : Row16 (W.alloc (.cells #[.int .u16 (k : Int)] 57)) (.slice (some ⟨W.heap.size, 0, none⟩) 1 1) [k] := by
  refine ⟨_, _, rfl, fun i hi => ⟨_, _, rfl, ?_, ?_⟩⟩
  · rw [World.cell?_alloc_at (hn := rfl)]
    obtain rfl : i = 0 := by simp at hi; omega
    rfl
  · obtain rfl : i = 0 := by simp at hi; omega
    exact hk
theorem row16_two (k m : Nat) (hk : k ≤ 65535) (hm : m ≤ 65535) (W : World) : Row16 (W.alloc (.cells #[.int .u16 (k : Int), .int .u16 (m : Int)] 57)) (.slice (some ⟨W.heap.size, 0, none⟩) 2 2) [k, m] := by
  refine ⟨_, _, rfl, fun i hi => ⟨_, _, rfl, ?_⟩⟩
  rw [World.cell?_alloc_at (hn := rfl)]
  have : i = 0 ∨ i = 1 := by simp at hi; omega
  rcases this with rfl | rfl
  · exact ⟨rfl, hk⟩
  · exact ⟨rfl, hm⟩
theorem num_small {l : List Nat} (h : ∀ x ∈ l, x ≤ 65535) (i : Nat) : num l i ≤ 65535 := by
  unfold num
  by_cases hi : i < l.length
  · simp only [List.getD, List.getElem?_eq_getElem hi, Option.getD_some]
    exact h _ (List.getElem_mem hi)
  · simp [List.getD, (by omega : l.length ≤ i)]

/-- A restart by a row that has just been laid. -/
theorem flock_restart1 {w0 W : World} {n : Nat} {L : List (Nat × DS)} (h : Flock w0 W n L) (i : Nat) (hi : i < L.length) (hn : n ≤ i) (hf : L[i].2.Fit) {l : List Nat} {o : Obj} {m c : Nat} (hr : Row16 (W.alloc o) (.slice (some ⟨W.heap.size, 0, none⟩) m c) l) (hll : l.length ≤ 1000000) (h16 : ∀ x ∈ l, x ≤ 65535) :
    Calls Tryz.prog 14 #[.pointer (some ⟨L[i].1, 0, none⟩), .slice (some ⟨W.heap.size, 0, none⟩) m c] (W.alloc o) fun e w' => e = .returned (.tuple #[]) ∧ Flock w0 w' n (L.set i (L[i].1, L[i].2.restart l)) :=
  flock_restart h ((Below.refl _ W).alloc (Nat.le_refl _) _) i hi hn hf hr hll (fun b o' n' c' e => by cases e; exact ⟨.inl (Nat.le_refl _), (Array.getElem?_eq_some_iff.1 (heap_alloc_new W o)).1⟩) (num_small h16)
theorem flock_restart0 {w0 W : World} {n : Nat} {L : List (Nat × DS)} (h : Flock w0 W n L) (i : Nat) (hi : i < L.length) (hn : n ≤ i) (hf : L[i].2.Fit) :
    Calls Tryz.prog 14 #[.pointer (some ⟨L[i].1, 0, none⟩), .slice none 0 0] W fun e w' => e = .returned (.tuple #[]) ∧ Flock w0 w' n (L.set i (L[i].1, L[i].2.restart [])) :=
  flock_restart h (Below.refl _ W) i hi hn hf ⟨_, _, rfl, fun i hi => absurd hi (Nat.not_lt_zero _)⟩ (Nat.zero_le _) (fun b o' n' c' e => by cases e) (fun i => by simp [num])

set_option maxHeartbeats 4000000 in
set_option maxRecDepth 100000 in
theorem works_any (w : World) : Calls Tryz.prog 17 #[] w fun e w' => e = .returned (.bool true) ∧ Below w.heap.size w w' := by
  have QN := Lib.hid (show Calls Tryz.prog 9 #[.int .i64 10] w fun e w' => ∃ p, e = .returned (.pointer (some ⟨p, 0, none⟩)) ∧ Flock w w' 0 [(p, wd0)] from flock_new (flock_nil w) 10 (by decide))
  have QC := Lib.hid (show ∀ W p, Flock w W 0 [(p, wd0)] → Calls Tryz.prog 12 #[.pointer (some ⟨p, 0, none⟩), .string ⟨#[97]⟩] W fun e w' => e = .returned (.int .i64 0) ∧ Flock w w' 0 [(p, wd1)] from fun W p h =>
    (flock_create h 0 Nat.zero_lt_one (Nat.le_refl _) (sized_wd0.fit (by decide) (by decide) (by decide)) ⟨#[97]⟩ (by decide)).mono fun e w' ⟨he, hw⟩ => ⟨by rw [he]; exact congrArg (fun k : Nat => Ending.returned (.int .i64 (k : Int))) wd1_e, hw⟩)
  have QA := Lib.hid (show ∀ W p, Flock w W 0 [(p, wd1)] → Calls Tryz.prog 13 #[.pointer (some ⟨p, 0, none⟩), .string ⟨#[97]⟩, .slice (some ⟨W.heap.size, 0, none⟩) 1 1] (W.alloc (.cells #[.string ⟨#[104, 101, 108, 108, 111]⟩] 9)) fun e w' => e = .returned (.int .i64 0) ∧ Flock w w' 0 [(p, wd2)] from fun W p h =>
    (flock_append1 h 0 Nat.zero_lt_one (Nat.le_refl _) (sized_wd1.fit (by decide) (by decide) (by decide)) ⟨#[97]⟩ ⟨#[104, 101, 108, 108, 111]⟩ (by decide) (by decide)).mono fun e w' ⟨he, hw⟩ => ⟨by rw [he]; exact congrArg (fun k : Nat => Ending.returned (.int .i64 (k : Int))) wd2_e, hw⟩)
  have QB := Lib.hid (show ∀ W p, Flock w W 0 [(p, wd2)] → Calls Tryz.prog 13 #[.pointer (some ⟨p, 0, none⟩), .string ⟨#[97]⟩, .slice (some ⟨W.heap.size, 0, none⟩) 1 1] (W.alloc (.cells #[.string ⟨#[119, 111, 114, 108, 100, 33]⟩] 9)) fun e w' => e = .returned (.int .i64 10) ∧ Flock w w' 0 [(p, wd3)] from fun W p h =>
    (flock_append1 h 0 Nat.zero_lt_one (Nat.le_refl _) (sized_wd2.fit (by decide) (by decide) (by decide)) ⟨#[97]⟩ ⟨#[119, 111, 114, 108, 100, 33]⟩ (by decide) (by decide)).mono fun e w' ⟨he, hw⟩ => ⟨by rw [he]; exact congrArg (fun k : Nat => Ending.returned (.int .i64 (k : Int))) wd3_e, hw⟩)
  have QH := Lib.hid (show ∀ W p, Flock w W 0 [(p, wd3)] → Calls Tryz.prog 35 #[.pointer (some ⟨p, 0, none⟩), .slice (some ⟨W.heap.size, 0, none⟩) 2 2] (W.alloc (.cells #[.string ⟨#[97]⟩, .string ⟨#[104, 101, 108, 108, 111, 119, 111, 114, 108, 100]⟩] 9)) fun e w' => e = .returned (.bool true) ∧ Flock w w' 0 [(p, wd3)] from fun W p h =>
    has_one h 0 Nat.zero_lt_one (sized_wd3.fit (by decide) (by decide) (by decide)) ⟨#[97]⟩ ⟨#[104, 101, 108, 108, 111, 119, 111, 114, 108, 100]⟩ wd3_files)
  have QR := Lib.hid (show ∀ W p, Flock w W 0 [(p, wd3)] → Calls Tryz.prog 14 #[.pointer (some ⟨p, 0, none⟩), .slice none 0 0] W fun e w' => e = .returned (.tuple #[]) ∧ Flock w w' 0 [(p, wd4)] from fun W p h =>
    flock_restart0 h 0 Nat.zero_lt_one (Nat.le_refl _) (sized_wd3.fit (by decide) (by decide) (by decide)))
  have QE := Lib.hid (show ∀ W p, Flock w W 0 [(p, wd4)] → Calls Tryz.prog 74 #[] W fun e w' => ∃ q, e = .returned (.pointer (some ⟨q, 0, none⟩)) ∧ Flock w w' 0 [(p, wd4), (q, exE)] from fun W p h =>
    (example_any W).mono fun e w' ⟨q, he, hw⟩ => ⟨q, he, h.join hw⟩)
  have QF := Lib.hid (show ∀ W p q, Flock w W 0 [(p, wd4), (q, exE)] → Calls Tryz.prog 74 #[] W fun e w' => ∃ r, e = .returned (.pointer (some ⟨r, 0, none⟩)) ∧ Flock w w' 0 [(p, wd4), (q, exE), (r, exE)] from fun W p q h =>
    (example_any W).mono fun e w' ⟨r, he, hw⟩ => ⟨r, he, h.join hw⟩)
  have QR0 := Lib.hid (show ∀ W p q r, Flock w W 0 [(p, wd4), (q, exE), (r, exE)] → Calls Tryz.prog 14 #[.pointer (some ⟨q, 0, none⟩), .slice (some ⟨W.heap.size, 0, none⟩) 1 1] (W.alloc (.cells #[.int .u16 0] 57)) fun e w' => e = .returned (.tuple #[]) ∧ Flock w w' 0 [(p, wd4), (q, exR0), (r, exE)] from fun W p q r h =>
    flock_restart1 h 1 (by simp) (Nat.zero_le _) (sized_exE.fit (by decide) (by decide) (by decide)) (row16_one 0 (by decide) W) (by decide) (by decide))
  have QR1 := Lib.hid (show ∀ W p q r, Flock w W 0 [(p, wd4), (q, exR0), (r, exE)] → Calls Tryz.prog 14 #[.pointer (some ⟨r, 0, none⟩), .slice (some ⟨W.heap.size, 0, none⟩) 2 2] (W.alloc (.cells #[.int .u16 0, .int .u16 1] 57)) fun e w' => e = .returned (.tuple #[]) ∧ Flock w w' 0 [(p, wd4), (q, exR0), (r, exR1)] from fun W p q r h =>
    flock_restart1 h 2 (by simp) (Nat.zero_le _) (sized_exE.fit (by decide) (by decide) (by decide)) (row16_two 0 1 (by decide) (by decide) W) (by decide) (by decide))
  have QG := Lib.hid (show ∀ W p q r, Flock w W 0 [(p, wd4), (q, exR0), (r, exR1)] → Calls Tryz.prog 9 #[.int .i64 10] W fun e w' => ∃ s, e = .returned (.pointer (some ⟨s, 0, none⟩)) ∧ Flock w w' 0 [(p, wd4), (q, exR0), (r, exR1), (s, wd0)] from fun W p q r h => flock_new h 10 (by decide))
  have QK := Lib.hid (show ∀ W p q r s, Flock w W 0 [(p, wd4), (q, exR0), (r, exR1), (s, wd0)] → Calls Tryz.prog 31 #[.pointer (some ⟨s, 0, none⟩), .int .i64 2] W fun e w' => e = .returned (.tuple #[]) ∧ Flock w w' 0 [(p, wd4), (q, exR0), (r, exR1), (s, wg0)] from fun W p q r s h =>
    flock_arm h 3 (by simp) (Nat.zero_le _) 2 (by decide))
  have QC1 := Lib.hid (show ∀ W p q r s, Flock w W 0 [(p, wd4), (q, exR0), (r, exR1), (s, wg0)] → Calls Tryz.prog 12 #[.pointer (some ⟨s, 0, none⟩), .string ⟨#[98]⟩] W fun e w' => e = .returned (.int .i64 0) ∧ Flock w w' 0 [(p, wd4), (q, exR0), (r, exR1), (s, wg1)] from fun W p q r s h =>
    (flock_create h 3 (by simp) (Nat.zero_le _) (sized_wg0.fit (by decide) (by decide) (by decide)) ⟨#[98]⟩ (by decide)).mono fun e w' ⟨he, hw⟩ => ⟨by rw [he]; exact congrArg (fun k : Nat => Ending.returned (.int .i64 (k : Int))) wg1_e, hw⟩)
  have QC2 := Lib.hid (show ∀ W p q r s, Flock w W 0 [(p, wd4), (q, exR0), (r, exR1), (s, wg1)] → Calls Tryz.prog 12 #[.pointer (some ⟨s, 0, none⟩), .string ⟨#[99]⟩] W fun e w' => e = .returned (.int .i64 13) ∧ Flock w w' 0 [(p, wd4), (q, exR0), (r, exR1), (s, wg2)] from fun W p q r s h =>
    (flock_create h 3 (by simp) (Nat.zero_le _) (sized_wg1.fit (by decide) (by decide) (by decide)) ⟨#[99]⟩ (by decide)).mono fun e w' ⟨he, hw⟩ => ⟨by rw [he]; exact congrArg (fun k : Nat => Ending.returned (.int .i64 (k : Int))) wg2_e, hw⟩)
  have QC3 := Lib.hid (show ∀ W p q r s, Flock w W 0 [(p, wd4), (q, exR0), (r, exR1), (s, wg2)] → Calls Tryz.prog 12 #[.pointer (some ⟨s, 0, none⟩), .string ⟨#[100]⟩] W fun e w' => e = .returned (.int .i64 13) ∧ Flock w w' 0 [(p, wd4), (q, exR0), (r, exR1), (s, wg3)] from fun W p q r s h =>
    (flock_create h 3 (by simp) (Nat.zero_le _) (sized_wg2.fit (by decide) (by decide) (by decide)) ⟨#[100]⟩ (by decide)).mono fun e w' ⟨he, hw⟩ => ⟨by rw [he]; exact congrArg (fun k : Nat => Ending.returned (.int .i64 (k : Int))) wg3_e, hw⟩)
  have QL := Lib.hid (show ∀ W p q r s, Flock w W 0 [(p, wd4), (q, exR0), (r, exR1), (s, wg3)] → Calls Tryz.prog 33 #[.pointer (some ⟨p, 0, none⟩)] W fun e w' => (∃ ad c, e = .returned (.slice ad 0 c)) ∧ Flock w w' 0 [(p, wd4), (q, exR0), (r, exR1), (s, wg3)] from fun W p q r s h =>
    h.read 0 (by simp) fun v hv => (disk_list hv (Nat.le_trans (sized_wd4.fit (by decide) (by decide) (by decide)).weight (by decide))).mono fun e w' ⟨x, he, hx, hb⟩ => ⟨by
      have hx' : w'.ownsRow W.heap.size 9 1 x wd4.listed.length (wd4.listed.map Value.string) := hx
      rw [wd4_listed] at hx'
      obtain ⟨ad, c, e1⟩ := ownsSlice hx'
      exact ⟨ad, c, he.trans (congrArg _ e1)⟩, h.next hb⟩)
  have QHE := Lib.hid (show ∀ W p q r s, Flock w W 0 [(p, wd4), (q, exR0), (r, exR1), (s, wg3)] → Calls Tryz.prog 35 #[.pointer (some ⟨q, 0, none⟩), .slice (some ⟨W.heap.size, 0, none⟩) 2 2] (W.alloc (.cells #[.string ⟨#[97]⟩, .string ⟨#[120, 121]⟩] 9)) fun e w' => e = .returned (.bool true) ∧ Flock w w' 0 [(p, wd4), (q, exR0), (r, exR1), (s, wg3)] from fun W p q r s h =>
    has_one h 1 (by simp) (sized_exR0.fit (by decide) (by decide) (by decide)) ⟨#[97]⟩ ⟨#[120, 121]⟩ exR0_files)
  have QHF := Lib.hid (show ∀ W p q r s, Flock w W 0 [(p, wd4), (q, exR0), (r, exR1), (s, wg3)] → Calls Tryz.prog 35 #[.pointer (some ⟨r, 0, none⟩), .slice (some ⟨W.heap.size, 0, none⟩) 2 2] (W.alloc (.cells #[.string ⟨#[97]⟩, .string ⟨#[120, 121, 122]⟩] 9)) fun e w' => e = .returned (.bool true) ∧ Flock w w' 0 [(p, wd4), (q, exR0), (r, exR1), (s, wg3)] from fun W p q r s h =>
    has_one h 2 (by simp) (sized_exR1.fit (by decide) (by decide) (by decide)) ⟨#[97]⟩ ⟨#[120, 121, 122]⟩ exR1_files)
  have QD := Lib.hid (show ∀ W p q r s, Flock w W 0 [(p, wd4), (q, exR0), (r, exR1), (s, wg3)] → Calls Tryz.prog 32 #[.pointer (some ⟨s, 0, none⟩)] W fun e w' => e = .returned (.bool true) ∧ W = w' from fun W p q r s h =>
    h.read 3 (by simp) fun v hv => (down_any hv).mono fun e w' ⟨he, hw⟩ => ⟨by rw [he]; exact congrArg (fun k : Bool => Ending.returned (.bool k)) wg3_down, hw⟩)
  go_enter Tryz.func17, Tryz.ntmps17
  go_wp2_with (first
    | (go_at_call 9; first
      | ((with_reducible refine (QG.out _ _ _ _ F7.out).mono ?_); rintro e w8 ⟨s, rfl, hq⟩; have G0 := Lib.hid hq; clear hq)
      | ((with_reducible refine QN.out.mono ?_); rintro e w1 ⟨p, rfl, hq⟩; have D0 := Lib.hid hq; clear hq))
    | (go_at_call 12; first
      | ((with_reducible refine (QC3.out _ _ _ _ _ G3.out).mono ?_); rintro e w12 ⟨rfl, hq⟩; have G4 := Lib.hid hq; clear hq)
      | ((with_reducible refine (QC2.out _ _ _ _ _ G2.out).mono ?_); rintro e w11 ⟨rfl, hq⟩; have G3 := Lib.hid hq; clear hq)
      | ((with_reducible refine (QC1.out _ _ _ _ _ G1.out).mono ?_); rintro e w10 ⟨rfl, hq⟩; have G2 := Lib.hid hq; clear hq)
      | ((with_reducible refine (QC.out _ _ D0.out).mono ?_); rintro e w2 ⟨rfl, hq⟩; have D1 := Lib.hid hq; clear hq))
    | (go_at_call 13; first
      | ((with_reducible refine (QB.out _ _ D2.out).mono ?_); rintro e w4 ⟨rfl, hq⟩; have D3 := Lib.hid hq; clear hq)
      | ((with_reducible refine (QA.out _ _ D1.out).mono ?_); rintro e w3 ⟨rfl, hq⟩; have D2 := Lib.hid hq; clear hq))
    | (go_at_call 14; first
      | ((with_reducible refine (QR1.out _ _ _ _ F6.out).mono ?_); rintro e w7 ⟨rfl, hq⟩; have F7 := Lib.hid hq; clear hq)
      | ((with_reducible refine (QR0.out _ _ _ _ F5.out).mono ?_); rintro e w6 ⟨rfl, hq⟩; have F6 := Lib.hid hq; clear hq)
      | ((with_reducible refine (QR.out _ _ D4.out).mono ?_); rintro e w5 ⟨rfl, hq⟩; have D5 := Lib.hid hq; clear hq))
    | (go_at_call 74; first
      | ((with_reducible refine (QF.out _ _ _ E4.out).mono ?_); rintro e wf ⟨r, rfl, hq⟩; have F5 := Lib.hid hq; clear hq)
      | ((with_reducible refine (QE.out _ _ D5.out).mono ?_); rintro e we ⟨q, rfl, hq⟩; have E4 := Lib.hid hq; clear hq))
    | (go_at_call 31; go_must (with_reducible refine (QK.out _ _ _ _ _ G0.out).mono ?_); rintro e w9 ⟨rfl, hq⟩; have G1 := Lib.hid hq; clear hq)
    | (go_at_call 35; first
      | ((with_reducible refine (QHF.out _ _ _ _ _ H2.out).mono ?_); rintro e wh3 ⟨rfl, hq⟩; have H3 := Lib.hid hq; clear hq)
      | ((with_reducible refine (QHE.out _ _ _ _ _ H1.out).mono ?_); rintro e wh2 ⟨rfl, hq⟩; have H2 := Lib.hid hq; clear hq)
      | ((with_reducible refine (QH.out _ _ D3.out).mono ?_); rintro e wh ⟨rfl, hq⟩; have D4 := Lib.hid hq; clear hq))
    | (go_at_call 33; go_must (with_reducible refine (QL.out _ _ _ _ _ G4.out).mono ?_); rintro e wl ⟨⟨al, cl, rfl⟩, hq⟩; have H1 := Lib.hid hq; clear hq)
    | (go_at_call 32; go_must (with_reducible refine (QD.out _ _ _ _ _ H3.out).mono ?_); rintro e wz ⟨rfl, rfl⟩))
  go_ret
  exact ⟨rfl, H3.out.below⟩
end Go.Proofs.YtmmoilmfpiclgaaGreat
namespace Go.Proofs.YtmmoilmfpiclgaaGreat
open Go.RowKit Go.Shelf
open Fld (FS Names FAct actsOn foundN foundB findT withT withoutT GoodN Rising mayB nam nameMax FolderS FolderIn ARow textsOf)

theorem stays_full (D : List UInt8) (A : List Do) {d : Int} (q : Int) (h : (A.length : Int) ≤ d) : stays D A d q = reads D A := by
  have e : upTo d A.length = A.length := by unfold upTo; omega
  unfold stays
  rw [e, List.take_length, List.drop_length]
  simp
theorem survive_full (F : FS) {k : Int} (h : (F.A.length : Int) ≤ k) : (F.survive k).there = F.there := by
  have e : Fld.upTo k F.A.length = F.A.length := by unfold Fld.upTo; omega
  unfold FS.survive FS.there
  dsimp only
  rw [e, List.take_length]
  rfl
theorem stay_full (f : FileS) {d : Int} (q : Int) (h : (f.A.length : Int) ≤ d) : (f.stay d q).R = f.R := stays_full f.D f.A q h
theorem rest_full {T : Names} {n : Nat} (hT : GoodN T n) (l : List Nat) (f : Nat → FileS) (h : ∀ k, k < T.length → ∀ x, (f x).A.length ≤ num l (2 * k + 1)) : ∀ k, k ≤ T.length → ∀ x, (restFile T l f k x).R = (f x).R
  | 0, _, _ => rfl
  | k + 1, hk, x => by
    show (upd (restFile T l f k) (nam T k).2 _ x).R = (f x).R
    by_cases e : x = (nam T k).2
    · subst e
      rw [upd_same, rest_other T l f _ k (by omega) (nums_not hT (by omega)), stay_full _ _ (by have := h k (by omega) (nam T k).2; omega)]
    · rw [upd_other _ _ e]
      exact rest_full hT l f h k (by omega) x
theorem restart_full {S : DS} (hg : S.fold.good) (l : List Nat) (h0 : S.fold.A.length ≤ num l 0) (h : ∀ k, k < S.fold.there.length → ∀ x, (S.file x).A.length ≤ num l (2 * k + 1)) : (S.restart l).files = S.fold.there.map fun p => (p.1, (S.file p.2).R) := by
  have e := survive_full S.fold (k := ((num l 0 : Nat) : Int)) (by omega)
  unfold DS.files DS.restart
  rw [if_neg (by simp)]
  dsimp only
  rw [e]
  refine List.map_congr_left fun p _ => ?_
  rw [rest_full hg.there l S.file h _ (Nat.le_refl _)]

/-- One is armed, for m steps more; the other one has been left out of those that were not done. -/
structure Mated (S T : DS) (m : Nat) : Prop where
  fold : S.fold = T.fold
  file : S.file = T.file
  room : S.room = T.room
  tarmed : T.armed = 0
  tdown : T.down = false
  armed : S.armed = m
  down : S.down = decide (m = 0)

def Even (g : DS → DS × Nat) : Prop := ∀ S T : DS, S.fold = T.fold → S.file = T.file → S.room = T.room → (g S).1.fold = (g T).1.fold ∧ (g S).1.file = (g T).1.file ∧ (g S).1.room = (g T).1.room ∧ (g S).2 = (g T).2
def Tame (g : DS → DS × Nat) : Prop := ∀ S : DS, (g S).1.armed = S.armed ∧ (g S).1.down = S.down
theorem even_create (s : ByteArray) : Even fun S => S.create0 s := fun S T h1 h2 h3 => by
  unfold DS.create0
  simp only [h1, h2, h3, and_self]
theorem even_remove (s : ByteArray) : Even fun S => S.remove0 s := fun S T h1 h2 h3 => by
  unfold DS.remove0
  simp only [h1, h2, h3, and_self]
theorem even_syncDir : Even DS.syncDir0 := fun S T h1 h2 h3 => by
  unfold DS.syncDir0
  simp only [h1, h2, h3, and_self]
theorem even_change (s : ByteArray) (g : FileS → FileS × Nat) : Even fun S => S.change0 s g := fun S T h1 h2 h3 => by
  dsimp only
  unfold DS.change0
  rw [h1, h2]
  by_cases e : foundB T.fold.there s.data.toList = true
  · rw [if_pos e, if_pos e]
    exact ⟨rfl, rfl, h3, rfl⟩
  · rw [if_neg e, if_neg e]
    exact ⟨h1, h2, h3, rfl⟩
theorem tame_create (s : ByteArray) : Tame fun S => S.create0 s := fun _S => ⟨rfl, rfl⟩
theorem tame_remove (s : ByteArray) : Tame fun S => S.remove0 s := fun _S => ⟨rfl, rfl⟩
theorem tame_syncDir : Tame DS.syncDir0 := fun _S => ⟨rfl, rfl⟩
theorem tame_change (s : ByteArray) (g : FileS → FileS × Nat) : Tame fun S => S.change0 s g := fun S => by
  dsimp only
  unfold DS.change0
  split <;> exact ⟨rfl, rfl⟩

theorem mated_go {g : DS → DS × Nat} (hE : Even g) (hT : Tame g) {S T : DS} {m : Nat} (h : Mated S T (m + 2)) : Mated (S.doing g).1 (T.doing g).1 (m + 1) ∧ (S.doing g).2 = (T.doing g).2 := by
  have d1 : S.down = false := by rw [h.down]; simp
  have e1 : S.stepped.down = false := by show (S.down || decide (S.armed = 1)) = false; rw [d1, h.armed]; simp
  have e2 : T.stepped.down = false := by show (T.down || decide (T.armed = 1)) = false; rw [h.tdown, h.tarmed]; rfl
  unfold DS.doing
  rw [if_neg (by rw [e1]; simp), if_neg (by rw [e2]; simp)]
  obtain ⟨a1, a2, a3, a4⟩ := hE S.stepped T.stepped h.fold h.file h.room
  obtain ⟨b1, b2⟩ := hT S.stepped
  obtain ⟨c1, c2⟩ := hT T.stepped
  refine ⟨⟨a1, a2, a3, c1.trans ?_, c2.trans e2, b1.trans ?_, b2.trans (e1.trans (by simp))⟩, a4⟩
  · show (if T.down then T.armed else T.armed - 1) = 0
    rw [h.tdown, h.tarmed]; rfl
  · show (if S.down then S.armed else S.armed - 1) = m + 1
    rw [d1, h.armed]; rfl
theorem mated_stop {g : DS → DS × Nat} {S T : DS} (h : Mated S T 1) : Mated (S.doing g).1 T 0 ∧ (S.doing g).2 = 13 := by
  have d1 : S.down = false := by rw [h.down]; simp
  have e1 : S.stepped.down = true := by show (S.down || decide (S.armed = 1)) = true; rw [d1, h.armed]; rfl
  unfold DS.doing
  rw [if_pos e1]
  refine ⟨⟨h.fold, h.file, h.room, h.tarmed, h.tdown, ?_, e1⟩, rfl⟩
  show (if S.down then S.armed else S.armed - 1) = 0
  rw [d1, h.armed]; rfl
theorem mated_down {g : DS → DS × Nat} {S T : DS} (h : Mated S T 0) : Mated (S.doing g).1 T 0 ∧ (S.doing g).2 = 13 := by
  have d1 : S.down = true := by rw [h.down]; rfl
  have e1 : S.stepped.down = true := by show (S.down || decide (S.armed = 1)) = true; rw [d1]; rfl
  unfold DS.doing
  rw [if_pos e1]
  refine ⟨⟨h.fold, h.file, h.room, h.tarmed, h.tdown, ?_, e1⟩, rfl⟩
  show (if S.down then S.armed else S.armed - 1) = 0
  rw [d1, h.armed]; rfl
theorem Mated.used {S T : DS} {m : Nat} (h : Mated S T m) : S.used = T.used := by unfold DS.used; rw [h.fold, h.file]
theorem Mated.files {S T : DS} {m : Nat} (h : Mated S T (m + 1)) : S.files = T.files := by
  unfold DS.files
  rw [h.down, h.tdown, h.fold, h.file]
  simp
theorem mated_append {S T : DS} {m : Nat} (s : ByteArray) (x : List UInt8) (h : Mated S T (m + 2)) : Mated (S.append s x).1 (T.append s x).1 (m + 1) ∧ (S.append s x).2 = (T.append s x).2 := by
  unfold DS.append DS.change
  rw [h.used, h.room]
  exact mated_go (even_change s _) (tame_change s _) h
theorem mated_new {q m : Nat} (hm : 1 ≤ m) : Mated ((DS.new q).arm (m : Int)) (DS.new q) m :=
  ⟨rfl, rfl, rfl, rfl, rfl, by show (m : Int).toNat = m; omega, by show false = _; exact (decide_eq_false (by omega)).symm⟩
/-- The numbers of the statement's restart. -/
def sixty : List Nat := List.replicate 13 60000
theorem sixty_num (i : Nat) (h : i < 13) : num sixty i = 60000 := by
  unfold num sixty
  rw [List.getD, List.getElem?_replicate, if_pos h]
  rfl
theorem mated_restart {S T : DS} {m a b : Nat} (h : Mated S T m) (hg : S.fold.good) (hl : S.Light a b) (ha : a ≤ 900) (hlen : T.fold.there.length ≤ 5) : (S.restart sixty).files = T.files := by
  have hA : S.fold.A.length ≤ a := Nat.le_trans (Nat.le_trans (Nat.le_add_left _ _) (Nat.le_add_right _ _)) hl.fold
  rw [restart_full hg sixty (by rw [sixty_num 0 (by decide)]; omega) (fun k hk x => by
    rw [h.fold] at hk
    rw [sixty_num _ (by omega)]
    exact Nat.le_trans (hl.acts x) (by omega))]
  unfold DS.files
  rw [h.tdown, h.fold, h.file]
  simp
end Go.Proofs.YtmmoilmfpiclgaaGreat
namespace Go.Proofs.YtmmoilmfpiclgaaGreat
open Go.RowKit Go.Shelf
open Fld (FS Names FAct actsOn foundN foundB findT withT withoutT GoodN Rising mayB nam nameMax FolderS FolderIn ARow textsOf)

def FlockX (w0 W : World) (n : Nat) (L : List (Nat × DS)) (xb : Nat) (o : Obj) : Prop := ∃ vs, FlockV w0 W n L vs ∧ W.heap[xb]? = some o ∧ ∀ i (h : i < vs.length), ¬ All vs[i].M xb
theorem FlockX.flock {w0 W : World} {n : Nat} {L : List (Nat × DS)} {xb : Nat} {o : Obj} (h : FlockX w0 W n L xb o) : Flock w0 W n L := by
  obtain ⟨vs, h1, _⟩ := h
  exact ⟨vs, h1⟩
theorem FlockX.box {w0 W : World} {n : Nat} {L : List (Nat × DS)} {xb : Nat} {o : Obj} (h : FlockX w0 W n L xb o) : W.heap[xb]? = some o := by
  obtain ⟨vs, _, h2, _⟩ := h
  exact h2
theorem FlockV.next {w0 W W' : World} {n : Nat} {L : List (Nat × DS)} {vs : List DV} (hv : FlockV w0 W n L vs) (hb : Below W.heap.size W W') : FlockV w0 W' n L vs :=
  ⟨hv.len, fun j hj hj' => ⟨(hv.disk j hj hj').1.below hb, (hv.disk j hj hj').2⟩, hv.apart, Below.next hv.below hb⟩
theorem FlockX.next {w0 W W' : World} {n : Nat} {L : List (Nat × DS)} {xb : Nat} {o : Obj} (h : FlockX w0 W n L xb o) (hb : Below W.heap.size W W') : FlockX w0 W' n L xb o := by
  obtain ⟨vs, h1, h2, h3⟩ := h
  exact ⟨vs, h1.next hb, (hb.block xb (Array.getElem?_eq_some_iff.1 h2).1).trans h2, h3⟩
theorem Flock.boxed {w0 W : World} {n : Nat} {L : List (Nat × DS)} (h : Flock w0 W n L) (o : Obj) : FlockX w0 (W.alloc o) n L W.heap.size o := by
  obtain ⟨vs, hv⟩ := h
  refine ⟨vs, hv.next ((Below.refl _ W).alloc (Nat.le_refl _) o), heap_alloc_new W o, fun i hi hm => ?_⟩
  have := (hv.disk i (by have := hv.len; omega) hi).1.blocks W.heap.size (.inl hm)
  omega
theorem FlockV.set {w0 W W' : World} {n : Nat} {L : List (Nat × DS)} {vs : List DV} (h : FlockV w0 W n L vs) (i : Nat) (hi : i < L.length) (hi' : i < vs.length) (hn : n ≤ i) {S' : DS} {v' : DV} (d1 : DiskP W' L[i].1 S' v') (t1 : vs[i].To W W' v') : FlockV w0 W' n (L.set i (L[i].1, S')) (vs.set i v') := by
  obtain ⟨h1, h2, h3, h4⟩ := h
  have old : ∀ j (hj : j < vs.length) g, All vs[j].M g ∨ All vs[j].I g → g < W.heap.size := fun j hj g hg => (h2 j (by omega) hj).1.blocks g hg
  refine ⟨by simp [h1], fun j hj hj' => ?_, fun a b ha hb hab hna g h5 h6 => ?_, h4.trans (t1.kept.to h4.size fun g hg => (h2 i hi hi').2 g (.inl hg))⟩
  · simp only [List.length_set] at hj hj'
    by_cases e : i = j
    · subst e
      simp only [List.getElem_set_self]
      refine ⟨d1, fun g hg => ?_⟩
      rcases hg with hg | hg
      · rcases t1.m g hg with k | k
        · exact (h2 i hi hi').2 g (.inl k)
        · exact Nat.le_trans h4.size k
      · rcases t1.i g hg with k | k
        · exact (h2 i hi hi').2 g (.inr k)
        · exact Nat.le_trans h4.size k
    · simp only [List.getElem_set_ne e]
      refine ⟨(h2 j hj hj').1.same (fun g hg => t1.kept.block g (old j hj' g hg) fun hm => h3 i j hi' hj' e hn g hm hg) t1.kept.size, (h2 j hj hj').2⟩
  · simp only [List.length_set] at ha hb
    by_cases ea : i = a <;> by_cases eb : i = b
    · omega
    · subst ea
      simp only [List.getElem_set_self] at h5
      simp only [List.getElem_set_ne eb] at h6
      rcases t1.m g h5 with k | k
      · exact h3 i b hi' hb hab hna g k h6
      · have := old b hb g h6; omega
    · subst eb
      simp only [List.getElem_set_ne ea] at h5
      simp only [List.getElem_set_self] at h6
      have h7 := old a ha g (.inl h5)
      rcases h6 with h6 | h6
      · rcases t1.m g h6 with k | k
        · exact h3 a i ha hi' hab hna g h5 (.inl k)
        · omega
      · rcases t1.i g h6 with k | k
        · exact h3 a i ha hi' hab hna g h5 (.inr k)
        · omega
    · simp only [List.getElem_set_ne ea] at h5
      simp only [List.getElem_set_ne eb] at h6
      exact h3 a b ha hb hab hna g h5 h6

theorem FlockX.call {w0 W : World} {n : Nat} {L : List (Nat × DS)} {xb : Nat} {o : Obj} (h : FlockX w0 W n L xb o) (i : Nat) (hi : i < L.length) (hn : n ≤ i) {f : FuncId} {args : Array Value} {r : Value} {S' : DS} (hc : ∀ v, DiskP W L[i].1 L[i].2 v → Calls Tryz.prog f args W fun e w' => e = .returned r ∧ WentK W L[i].1 v S' w') :
    Calls Tryz.prog f args W fun e w' => e = .returned r ∧ FlockX w0 w' n (L.set i (L[i].1, S')) xb o := by
  obtain ⟨vs, hv, hx, hm⟩ := h
  have hi' : i < vs.length := by have := hv.len; omega
  refine (hc _ (hv.disk i hi hi').1).mono fun e w' ⟨he, hw⟩ => ⟨he, ?_⟩
  have hlt := (Array.getElem?_eq_some_iff.1 hx).1
  obtain ⟨v', d1, t1⟩ := hw
  refine ⟨vs.set i v', hv.set i hi hi' hn d1 t1, (t1.kept.block xb hlt (hm i hi')).trans hx, fun j hj => ?_⟩
  rw [List.length_set] at hj
  by_cases e : i = j
  · subst e
    rw [List.getElem_set_self]
    intro k
    rcases t1.m xb k with k | k
    · exact hm i hi' k
    · omega
  · rw [List.getElem_set_ne e]
    exact hm j hj
theorem FlockX.read {w0 W : World} {n : Nat} {L : List (Nat × DS)} {xb : Nat} {o : Obj} (h : FlockX w0 W n L xb o) (i : Nat) (hi : i < L.length) {f : FuncId} {args : Array Value} {R : Ending → World → Prop} (hc : ∀ v, DiskP W L[i].1 L[i].2 v → Calls Tryz.prog f args W R) : Calls Tryz.prog f args W R := h.flock.read i hi hc

section
variable {w0 W : World} {n : Nat} {L : List (Nat × DS)} {xb : Nat} {o : Obj} (h : FlockX w0 W n L xb o) (i : Nat) (hi : i < L.length) (hn : n ≤ i) (hf : L[i].2.Fit)
include h hn hf
theorem boxed_create (s : ByteArray) (hs : s.size ≤ nameMax) : Calls Tryz.prog 12 #[.pointer (some ⟨L[i].1, 0, none⟩), .string s] W fun e w' => e = .returned (.int .i64 (((L[i].2.create s).2 : Nat) : Int)) ∧ FlockX w0 w' n (L.set i (L[i].1, (L[i].2.create s).1)) xb o :=
  h.call i hi hn fun _v hv => create_any hv s hs hf.weight hf.used hf.steps
theorem boxed_remove (s : ByteArray) (hs : s.size ≤ nameMax) : Calls Tryz.prog 27 #[.pointer (some ⟨L[i].1, 0, none⟩), .string s] W fun e w' => e = .returned (.int .i64 (((L[i].2.remove s).2 : Nat) : Int)) ∧ FlockX w0 w' n (L.set i (L[i].1, (L[i].2.remove s).1)) xb o :=
  h.call i hi hn fun _v hv => remove_any hv s hs hf.weight hf.used hf.steps
theorem boxed_syncDir : Calls Tryz.prog 24 #[.pointer (some ⟨L[i].1, 0, none⟩)] W fun e w' => e = .returned (.int .i64 (((L[i].2.syncDir).2 : Nat) : Int)) ∧ FlockX w0 w' n (L.set i (L[i].1, (L[i].2.syncDir).1)) xb o :=
  h.call i hi hn fun _v hv => syncDir_any hv hf.weight hf.steps
theorem boxed_sync (s : ByteArray) (hs : s.size ≤ nameMax) : Calls Tryz.prog 22 #[.pointer (some ⟨L[i].1, 0, none⟩), .string s] W fun e w' => e = .returned (.int .i64 (((L[i].2.sync s).2 : Nat) : Int)) ∧ FlockX w0 w' n (L.set i (L[i].1, (L[i].2.sync s).1)) xb o :=
  h.call i hi hn fun v hv => disk_sync hv s hs hf.weight hf.used hf.steps (Nat.le_trans (hf.1.heft _) (by decide))
theorem boxed_append1 (s x : ByteArray) (hs : s.size ≤ nameMax) (hx : x.size ≤ 140737488355328) :
    Calls Tryz.prog 13 #[.pointer (some ⟨L[i].1, 0, none⟩), .string s, .slice (some ⟨W.heap.size, 0, none⟩) 1 1] (W.alloc (.cells #[.string x] 9)) fun e w' => e = .returned (.int .i64 (((L[i].2.append s x.data.toList).2 : Nat) : Int)) ∧ FlockX w0 w' n (L.set i (L[i].1, (L[i].2.append s x.data.toList).1)) xb o :=
  (h.next ((Below.refl _ W).alloc (Nat.le_refl _) _)).call i hi hn fun v hv => disk_append hv s hs hf.weight hf.used hf.steps (by
    have h1 := hf.1.heft (foundN L[i].2.fold.there s.data.toList)
    have h2 := hf.2
    omega) (Nat.le_trans (hf.1.acts _) (by decide)) ⟨_, _, _, rfl⟩ (Nat.le_trans hx (by decide)) fun W' hk => join_one hx (hk _ _ _ (heap_alloc_new W _) (by decide))
end
end Go.Proofs.YtmmoilmfpiclgaaGreat
namespace Go.Proofs.YtmmoilmfpiclgaaGreat
open Go.RowKit Go.Shelf
open Fld (FS Names FAct actsOn foundN foundB findT withT withoutT GoodN Rising mayB nam nameMax FolderS FolderIn ARow textsOf capOf)

/-- A struct's cells are stored in a block's first ones. -/
theorem wpList_store_cells {w : World} {ops : Array Oper} {rest : List Oper} {o : Oper} {a : Act} {Q : Exit → Act → World → Prop} (hgd : o.guard = none) (ty : TypeId) (x y : Operand) (ho : o.op = .store ty x y)
    (g : Nat) (hx : a.eval x = .pointer (some ⟨g, 0, none⟩)) (t : TypeId) (cells cur : Array Value) (hy : a.eval y = .agg cells) (hg : w.heap[g]? = some (.cells cur t (0, 0))) (hi : (Tryz.prog.info? ty).map (·.size) = some cells.size) (hle : cells.size ≤ cur.size) (h1 : ∀ v ∈ cells.toList, v.oneCell' = true)
    (h : ∀ w', w.grownBy w' (some g) → w'.heap[g]? = some (.cells (cells.toList ++ cur.toList.drop cells.size).toArray t (0, 0)) → w'.heap.size = w.heap.size → wpList Tryz.prog ops Q rest (a.put o.dst undef) w') : wpList Tryz.prog ops Q (o :: rest) a w := by
  refine wpList_plain hgd fun K' hK' => ?_
  have hz : (sizeOf ty).run Tryz.prog w = .ok cells.size w := by
    cases hq : Tryz.prog.info? ty with
    | none => simp [hq] at hi
    | some i =>
      have hs : i.size = cells.size := by simpa [hq] using hi
      simp [sizeOf, typeInfo, hq, hs, Sem.run_bind]
  have hs := run_storeCells_at (P := Tryz.prog) g 0 t cells.toList 0 cur w hg (by simpa using hle) h1
  have hrun : (storeVar ty ⟨g, 0, none⟩ (.agg cells)).run Tryz.prog w = .ok () (w.setRow g (cells.toList ++ cur.toList.drop cells.size).toArray) := by
    unfold storeVar
    simp only [Sem.run_bind, hz, Result.andThen_ok]
    rw [if_neg (by simp [Value.cells])]
    simpa [Value.cells] using hs
  unfold Oper.wp
  simp [execOp, ho, hx, hy, Instr.storeAt, Instr.sureAddr, hrun, Result.andThen]
  exact hK' _ _ (h _ ⟨rfl, rfl, rfl, by simp, fun i _ hn => setRow_other w g i _ (fun e => hn (congrArg some e))⟩ (setRow_heap w g cur _ t _ hg) (by simp))

/-- What a copy leaves. -/
def Copied (w : World) (S : DS) (v : DV) (e : Ending) (w' : World) : Prop :=
  ∃ q u, e = .returned (.pointer (some ⟨q, 0, none⟩)) ∧ DiskP w' q S u ∧ (∀ g, All u.M g → w.heap.size ≤ g) ∧ (∀ g, All u.I g → All v.I g ∨ v.av.ownBlock = some g) ∧ (u.av = .slice none 0 0 ∨ u.av.ownBlock = v.av.ownBlock) ∧ capOf u.av = v.fs.length ∧ u.fs = v.fs ∧ Below w.heap.size w w'

/-- What there is where the files begin to be copied. -/
theorem copy_start {w w1 w2 w3 w4 : World} {p q q2 : Nat} {S : DS} {v : DV} {fv lv cv a0 a1 a2 a3 : Value} {lost : List Nat} {armed : Nat} {P : Nat → Option Nat} {Mc Ic : Nat → Prop} {m0 m2 : Option Nat} (h : DiskP w p S v) (_d1 : DiskIn w p S S.used v fv lv lost armed P)
    (hq : q = w.heap.size) (g1 : (w.alloc (.cells #[.map none, .slice none 0 0, .map none, .int .i64 0, .map none, .slice none 0 0, .int .i64 0, .int .i64 0, .int .i64 0, .int .i64 0, .bool false] 77)).grownBy w1 (some q))
    (h1 : w1.heap[q]? = some (.cells ⟨a0 :: a1 :: a2 :: a3 :: DTail fv lv S.room S.used S.steps armed S.down⟩ 77 (0, 0)))
    (f1 : @FolderS Fld.alone w2 q2 S.fold cv v.fs Mc Ic) (f2 : ∀ g, Mc g → w1.heap.size ≤ g) (f3 : ∀ g, Ic g → v.I 0 g ∨ cv.ownBlock = some g) (f4 : cv = .slice none 0 0 ∨ cv.ownBlock = v.av.ownBlock) (b2 : Below w1.heap.size w1 w2)
    (hm : ∀ (R : List Value) (W : World) (q : Nat), W.heap[q]? = some (.cells ⟨.map m0 :: cv :: .map m2 :: .int .i64 (S.fold.n : Int) :: R⟩ 77 (0, 0)) → (∀ g, Mc g ∨ Ic g → W.heap[g]? = w2.heap[g]?) → w2.heap.size ≤ W.heap.size → ¬ Ic q → @FolderS (fin R) W q S.fold cv v.fs (fun g => g = q ∨ Mc g) Ic)
    (g3 : w2.grownBy w3 (some q)) (h3 : w3.heap[q]? = some (.cells ⟨.map m0 :: cv :: .map m2 :: .int .i64 (S.fold.n : Int) :: DTail fv lv S.room S.used S.steps armed S.down⟩ 77 (0, 0))) (z3 : w3.heap.size = w2.heap.size)
    (h4 : w4 = (w3.setCell ⟨q, 4, none⟩ (.map (some w3.heap.size))).alloc (.map #[] 0)) : ∃ u, CopyIn w w4 q w3.heap.size S v u lv armed (fun _ => none) ∧ u.av = cv ∧ u.fs = v.fs ∧ ∀ k, ¬ u.M k w4.heap.size := by
  subst h4
  have bA : Below w.heap.size w (w.alloc (.cells #[.map none, .slice none 0 0, .map none, .int .i64 0, .map none, .slice none 0 0, .int .i64 0, .int .i64 0, .int .i64 0, .int .i64 0, .bool false] 77)) := (Below.refl _ w).alloc (Nat.le_refl _) _
  have bB : Below w.heap.size w w1 := bA.grown g1 bA.size fun r e => by cases e; omega
  have bC : Below w.heap.size w w2 := Below.next bB b2
  have bD : Below w.heap.size w w3 := bC.grown g3 bC.size fun r e => by cases e; omega
  have bE : Below w.heap.size w (w3.setCell ⟨q, 4, none⟩ (.map (some w3.heap.size))) := bD.grown (grown_setCell _ _ _ _) bD.size fun r e => by cases e; omega
  have bF : Below w.heap.size w ((w3.setCell ⟨q, 4, none⟩ (.map (some w3.heap.size))).alloc (.map #[] 0)) := bE.alloc bE.size _
  have zA : (w.alloc (.cells #[.map none, .slice none 0 0, .map none, .int .i64 0, .map none, .slice none 0 0, .int .i64 0, .int .i64 0, .int .i64 0, .int .i64 0, .bool false] 77)).heap.size = w.heap.size + 1 := by simp
  have z1 : w.heap.size < w1.heap.size := by have := g1.size; omega
  have z2 := b2.size
  have zE : (w3.setCell ⟨q, 4, none⟩ (.map (some w3.heap.size))).heap.size = w3.heap.size := by simp
  have q4 := (heap_alloc_old (w3.setCell ⟨q, 4, none⟩ (.map (some w3.heap.size))) (.map #[] 0) (by rw [zE]; omega)).trans (cells_setCell h3 4 (.map (some w3.heap.size)))
  have old : ∀ g, v.I 0 g ∨ v.av.ownBlock = some g → g < w.heap.size := fun g hg => by
    rcases hg with hg | hg
    · exact h.parts.mem 0 g (.inr hg)
    · exact h.rowLt hg
  have oldI : ∀ g, Ic g → v.I 0 g ∨ v.av.ownBlock = some g := fun g hg => by
    rcases f3 g hg with k | k
    · exact .inl k
    · rcases f4 with e | e
      · rw [e] at k; cases k
      · exact .inr (by rw [← e]; exact k)
  have memc := @FolderIn.mem Fld.alone _ _ _ _ _ _ _ _ _ f1
  have fold := hm ((DTail fv lv S.room S.used S.steps armed S.down).set 0 (.map (some w3.heap.size))) ((w3.setCell ⟨q, 4, none⟩ (.map (some w3.heap.size))).alloc (.map #[] 0)) q (by simpa using q4) (fun g hg => by
    have h5 := memc g hg
    have ne : g ≠ q := fun e => by
      subst e
      rcases hg with hg | hg
      · have := f2 g hg; omega
      · have := old g (oldI g hg); omega
    rw [heap_alloc_old _ _ (by rw [zE]; omega), Fld.heap_setCell_ne ne, g3.block g h5 (fun e => ne (Option.some.inj e))]) (by simp; omega) (fun hg => by have := old q (oldI q hg); omega)
  refine ⟨⟨cv, v.fs, fun k g => (k = 0 ∧ (g = q ∨ Mc g)) ∨ (k = 1 ∧ g = w3.heap.size), fun k g => (k = 0 ∧ Ic g) ∨ (3 ≤ k ∧ v.I k g)⟩, ⟨?_, ?_, .inr ⟨rfl, rfl⟩, (fun n b hn => by cases hn), ⟨?_, ?_, ?_⟩, ?_, ?_, fun n => ?_, ?_, bF⟩, rfl, rfl, ?_⟩
  · have eM : (fun g => ((0 = 0 ∧ (g = q ∨ Mc g)) ∨ (0 = 1 ∧ g = w3.heap.size))) = fun g => g = q ∨ Mc g := funext fun g => by simp
    have eI : (fun g => (0 = 0 ∧ Ic g) ∨ (3 ≤ 0 ∧ v.I 0 g)) = Ic := funext fun g => by simp
    show @FolderS (fin (DTail (.map (some w3.heap.size)) lv S.room S.used S.steps armed S.down)) _ _ _ _ _ (fun g => ((0 = 0 ∧ (g = q ∨ Mc g)) ∨ (0 = 1 ∧ g = w3.heap.size))) (fun g => (0 = 0 ∧ Ic g) ∨ (3 ≤ 0 ∧ v.I 0 g))
    rw [eM, eI]
    exact fold
  · have := hasP_made (w3.setCell ⟨q, 4, none⟩ (.map (some w3.heap.size)))
    rwa [zE] at this
  · rintro k g ((⟨-, rfl | hg⟩ | ⟨-, rfl⟩) | (⟨-, hg⟩ | ⟨-, hg⟩))
    · simp; omega
    · have := memc g (.inl hg); simp; omega
    · simp
    · have := memc g (.inr hg); simp; omega
    · have := h.parts.mem k g (.inr hg); simp; omega
  · rintro k l g hkl (⟨rfl, hg⟩ | ⟨rfl, rfl⟩) (⟨rfl, hg'⟩ | ⟨rfl, hg'⟩)
    · exact hkl rfl
    · rcases hg with rfl | hg
      · omega
      · have := memc g (.inl hg); omega
    · rcases hg' with e | hg'
      · omega
      · have := memc _ (.inl hg'); omega
    · exact hkl rfl
  · rintro k l g hI hM
    have hlt : g < w.heap.size := by
      rcases hI with ⟨-, hg⟩ | ⟨-, hg⟩
      · exact old g (oldI g hg)
      · exact h.parts.mem k g (.inr hg)
    rcases hM with ⟨-, rfl | hg⟩ | ⟨-, rfl⟩
    · omega
    · have := f2 g hg; omega
    · omega
  · rintro g ⟨k, ⟨-, rfl | hg⟩ | ⟨-, rfl⟩⟩
    · omega
    · have := f2 g hg; omega
    · omega
  · rintro g ⟨k, ⟨-, hg⟩ | ⟨-, hg⟩⟩
    · exact (oldI g hg).imp (fun h => ⟨0, h⟩) id
    · exact .inl ⟨k, hg⟩
  · funext g
    show ((n + 3 = 0 ∧ Ic g) ∨ (3 ≤ n + 3 ∧ v.I (n + 3) g)) = v.I (n + 3) g
    simp
  · rintro g ⟨k, ⟨-, hg⟩ | ⟨-, hg⟩⟩
    · exact old g (oldI g hg)
    · exact h.parts.mem k g (.inr hg)
  · rintro k (⟨-, e | hg⟩ | ⟨-, e⟩)
    · simp at e; omega
    · have := memc _ (.inl hg); simp at this; omega
    · simp at e

/-- A range over the files' map under way. -/
structure FilesR (w : World) (m r N : Nat) (P : Nat → Option Nat) (D : DataW Unit) (left : Lit → Bool) (cnt : Nat) : Prop where
  it : w.ranges Tryz.prog 3 ptrElem m r N D left cnt
  sub : ∀ kl, left kl = true → Maps.has D kl = true
  has : ∀ x : Nat, Maps.has D (.int .i64 (x : Int)) = (P x).isSome
  at' : ∀ (x b : Nat), P x = some b → ∀ z, D.atKey (.int .i64 (x : Int)) z = .lit (.int .i64 (b : Int))
  keys : ∀ kl, Maps.has D kl = true → ∃ x : Nat, kl = .int .i64 (x : Int)
theorem FilesR.kept {w w' : World} {m r N cnt : Nat} {P : Nat → Option Nat} {D : DataW Unit} {left : Lit → Bool} (h : FilesR w m r N P D left cnt) (hm : w'.heap[m]? = w.heap[m]?) (hr : w'.heap[r]? = w.heap[r]?) : FilesR w' m r N P D left cnt := by
  obtain ⟨es, clock, since, seen, c0, hb, F, hs, hD, hr', rest⟩ := h.it
  exact { h with it := ⟨es, clock, since, seen, c0, hm.trans hb, F, hs, hD, hr.trans hr', rest⟩ }

theorem wpList_range_files {w : World} {ops : Array Oper} {rest : List Oper} {o : Oper} {a : Act} {Q : Exit → Act → World → Prop} (hg : o.guard = none) (x : Operand) (hop : o.op = Op.range 74 x) (m : Nat) (P : Nat → Option Nat) (hm : a.eval x = .map (some m)) (h : HasP w m P)
    (hK : ∀ w' N D cnt, FilesR w' m w.heap.size N P D (Maps.has D) cnt → w.grownBy w' none → w'.heap.size = w.heap.size + 1 → wpList Tryz.prog ops Q rest (a.put o.dst (.pointer (some ⟨w.heap.size, 0, none⟩))) w') :
    wpList Tryz.prog ops Q (o :: rest) a w := by
  obtain ⟨D, h1, h2, h3, h4⟩ := h
  exact wpList_range_own w hg x _ hop _ _ keyI Tryz.underlying74 _ m _ D hm h1 fun w' r1 r2 r3 => hK w' _ D _ ⟨r1, fun _ h => h, h2, h3, h4⟩ r2 r3
set_option maxRecDepth 100000 in
theorem wpList_next_files {w : World} {ops : Array Oper} {rest : List Oper} {o : Oper} {a : Act} {Q : Exit → Act → World → Prop} (hg : o.guard = none) (it : Operand) (hop : o.op = Op.next it false) (m r N : Nat) (P : Nat → Option Nat) (D : DataW Unit) (left : Lit → Bool) (cnt : Nat) (hit : a.eval it = .pointer (some ⟨r, 0, none⟩))
    (h : FilesR w m r N P D left cnt) (hDone : (∀ kl, left kl = false) → wpList Tryz.prog ops Q rest (a.put o.dst (.tuple #[.bool false])) w)
    (hMore : ∀ (n b : Nat) (w' : World) (cnt' : Nat), P n = some b → left (.int .i64 (n : Int)) = true → FilesR w' m r N P D (fun z => left z && !z.sameKey (.int .i64 (n : Int))) cnt' → cnt' < cnt → w.grownBy w' (some r) → w'.heap.size = w.heap.size →
      (Instr.entry (.pointer (some ⟨r, 0, none⟩))).run Tryz.prog w' = .ok (.tuple #[.int .i64 (n : Int), .pointer (some ⟨b, 0, none⟩)]) w' → wpList Tryz.prog ops Q rest (a.put o.dst (.tuple #[.bool true, .int .i64 (n : Int), .pointer (some ⟨b, 0, none⟩)])) w') :
    wpList Tryz.prog ops Q (o :: rest) a w := by
  refine wpList_next_ranges (α := Int) (β := Option Nat) w hg it hop _ keyI ptrElem (Value.int .i64) (fun c => match c with | none => .pointer none | some b => .pointer (some ⟨b, 0, none⟩)) (fun key kl hkey => ?_) (fun v y hv => ?_) m r N D left cnt hit h.it (fun _ hl => hDone hl) fun x c kl y w' cnt' hkey hlk hv hat hrg hlt hgr hsz hen => ?_
  · obtain ⟨x, rfl, _⟩ := Maps.keyOf_int_inv Tryz.underlying3 hkey
    exact ⟨x, rfl⟩
  · rcases ptrElem_inv hv with ⟨rfl, _⟩ | ⟨b, rfl, _⟩
    · exact ⟨none, rfl⟩
    · exact ⟨some b, rfl⟩
  · obtain ⟨x', ex, rfl, _⟩ := Maps.keyOf_int_inv Tryz.underlying3 hkey
    cases ex
    obtain ⟨n, hn⟩ := h.keys _ (h.sub _ hlk)
    have hx : x = (n : Int) := by injection hn
    subst hx
    have hP : (P n).isSome = true := by rw [← h.has]; exact h.sub _ hlk
    obtain ⟨b, hb⟩ := Option.isSome_iff_exists.1 hP
    have e1 := h.at' n b hb .nil
    rw [hat] at e1
    have hc : c = some b := by
      cases c with
      | none =>
        rcases ptrElem_inv hv with ⟨_, rfl⟩ | ⟨b', h1, _⟩
        · cases e1
        · cases h1
      | some b' =>
        rcases ptrElem_inv hv with ⟨h1, _⟩ | ⟨b2, h1, rfl⟩
        · cases h1
        · have e2 : b2 = b' := by injection h1 with h1; injection h1 with h1; injection h1 with h1; exact h1.symm
          have e3 : b2 = b := by injection e1 with e1; injection e1 with _ e1; exact Int.ofNat.inj e1
          rw [← e3, e2]
    subst hc
    exact hMore n b w' cnt' hb hlk ⟨hrg, fun kl' hk => h.sub kl' (by simp only [Bool.and_eq_true] at hk; exact hk.1), h.has, h.at', h.keys⟩ hlt hgr hsz hen

theorem CopyIn.cell5 {w0 w w1 : World} {q mc armed : Nat} {S : DS} {v u : DV} {lv : Value} {Pc : Nat → Option Nat} (h : CopyIn w0 w q mc S v u lv armed Pc) (hb : Below w.heap.size w w1) : w1.cell? ⟨q, 5, none⟩ = some lv ∧ w1.frozen? ⟨q, 5, none⟩ = false ∧ q < w1.heap.size := by
  obtain ⟨a, b, c, d, h1, _⟩ := four_of h.fold
  have h2 := (hb.block q (Array.getElem?_eq_some_iff.1 h1).1).trans h1
  exact ⟨by rw [cell_of_row _ _ _ _ _ _ h2]; rfl, free_of h2 5, (Array.getElem?_eq_some_iff.1 h2).1⟩
theorem CopyIn.cell4 {w0 w w1 : World} {q mc armed : Nat} {S : DS} {v u : DV} {lv : Value} {Pc : Nat → Option Nat} (h : CopyIn w0 w q mc S v u lv armed Pc) (hb : Below w.heap.size w w1) : w1.cell? ⟨q, 4, none⟩ = some (.map (some mc)) := by
  obtain ⟨a, b, c, d, h1, _⟩ := four_of h.fold
  have h2 := (hb.block q (Array.getElem?_eq_some_iff.1 h1).1).trans h1
  rw [cell_of_row _ _ _ _ _ _ h2]; rfl
/-- The row of what lost its name, copied. -/
theorem clone_lost {w W : World} {lv : Value} {lost : List Nat} (h : w.ownsRow 0 3 1 lv lost.length (lost.map fun x : Nat => Value.int .i64 (x : Int))) (hb : Below w.heap.size w W) (hl : lost.length ≤ 1000000) :
    Calls Tryz.prog 47 #[lv] W fun e w' => ∃ ad c, e = .returned (.slice ad lost.length c) ∧ w'.ownsRow W.heap.size 3 1 (.slice ad lost.length c) lost.length (lost.map fun x : Nat => Value.int .i64 (x : Int)) ∧ Below W.heap.size W w' := by
  rcases h.2 with ⟨rfl, h0⟩ | ⟨g, cap, cur, rfl, hbg, hg, h4, h5, h6, ht⟩
  · have hn : lost = [] := List.length_eq_zero_iff.1 h0
    subst hn
    refine (Tryz.slices_Clone_int_nil 0 0 W).mono ?_
    rintro e w' ⟨rfl, rfl⟩
    exact ⟨_, _, rfl, World.ownsRow_nil _ _ _ _, Below.refl _ _⟩
  · refine (Tryz.slices_Clone_int g 0 lost.length cap (lost.map fun x : Nat => (x : Int)) W (by simp) (by omega) fun j hj => ?_).mono ?_
    · have hg' := (hb.block g (Array.getElem?_eq_some_iff.1 hg).1).trans hg
      simp only [List.length_map] at hj
      rw [Nat.zero_add, cell_of_row W g j cur 3 (0, 0) hg', ← Array.getElem?_toList]
      have hx : (lost.map fun x : Nat => Value.int .i64 (x : Int))[j]? = some (.int .i64 ((lost.map fun x : Nat => (x : Int)).getD j 0)) := by simp [List.getD, hj]
      rw [← ht, List.getElem?_take] at hx
      split at hx
      · exact hx
      · cases hx
    · rintro e w' ⟨v', rfl, q1, _, q3⟩
      have q1' : w'.ownsRow W.heap.size 3 1 v' lost.length (lost.map fun x : Nat => Value.int .i64 (x : Int)) := by
        rw [show (lost.map fun x : Nat => (x : Int)).take lost.length = lost.map fun x : Nat => (x : Int) from List.take_of_length_le (by simp)] at q1
        simpa [List.map_map, Function.comp_def] using q1
      obtain ⟨ad, c, rfl⟩ := ownsSlice q1'
      exact ⟨ad, c, rfl, q1', q3⟩

theorem disk_block {w : World} {p u : Nat} {S : DS} {v : DV} {fv lv : Value} {lost : List Nat} {armed : Nat} {P : Nat → Option Nat} (h : DiskIn w p S u v fv lv lost armed P) :
    ∃ x0 y0 y1 y2 x2, w.heap[p]? = some (.cells ⟨.map x0 :: .slice y0 y1 y2 :: .map x2 :: .int .i64 (S.fold.n : Int) :: DTail fv lv S.room u S.steps armed S.down⟩ 77 (0, 0)) := by
  obtain ⟨lv0, tv0, h1, h2, h3, _⟩ := @FolderIn.it (fin _) _ _ _ _ _ _ _ _ _ h.fold
  obtain ⟨y0, y2, hy, _⟩ := (@FolderIn.row (fin _) _ _ _ _ _ _ _ _ _ h.fold).shape
  obtain ⟨x0, rfl⟩ := h2.shape
  obtain ⟨x2, rfl⟩ := h3.shape
  rw [hy] at h1
  exact ⟨x0, y0, _, y2, x2, h1⟩

set_option maxHeartbeats 8000000 in
set_option maxRecDepth 100000 in
theorem copy_some {w : World} {p m : Nat} {S : DS} {v : DV} {lv : Value} {lost : List Nat} {armed : Nat} {P : Nat → Option Nat} (h : DiskP w p S v) (d1 : DiskIn w p S S.used v (.map (some m)) lv lost armed P) (hkn : KnownIn S.fold lost P) (hl : S.fold.weight ≤ 80000) (ha : ∀ n, (S.file n).A.length ≤ 1000) :
    Calls Tryz.prog 11 #[.pointer (some ⟨p, 0, none⟩)] w fun e w' => Copied w S v e w' := by
  obtain ⟨x0, y0, y1, y2, x2, hblk⟩ := disk_block d1
  have HP : Hid (∀ W, Below w.heap.size w W → W.cell? ⟨p, 4, none⟩ = some (.map (some m)) ∧ W.cell? ⟨p, 5, none⟩ = some lv) := Lib.hid fun W hW => by
    obtain ⟨k4, k5, _⟩ := d1.cells
    exact ⟨(hW.cell (p := ⟨p, 4, none⟩) d1.p_mem.2).trans k4, (hW.cell (p := ⟨p, 5, none⟩) d1.p_mem.2).trans k5⟩
  have QF := Lib.hid (fun W (hW : Below w.heap.size w W) => @Fld.copy_any (fin _) _ _ _ _ _ _ _ (@FolderIn.below (fin _) _ _ _ _ _ _ _ _ _ _ d1.fold hW) (by omega : S.fold.weight ≤ 90000))
  have HS := Lib.hid (fun w1 w2 w3 w4 q q2 cv Mc Ic m0 m2 => @copy_start w w1 w2 w3 w4 p q q2 S v (.map (some m)) lv cv (.map x0) (.slice y0 y1 y2) (.map x2) (.int .i64 (S.fold.n : Int)) lost armed P Mc Ic m0 m2 h d1)
  have HM := Lib.hid (fun W (hW : Below w.heap.size w W) => (show HasP W m P by
    rcases d1.map with ⟨e, _⟩ | ⟨m', e, hm⟩
    · cases e
    · cases e; exact hm.same (hW.block m hm.lt)))
  obtain ⟨ad, cl, rfl⟩ := ownsSlice d1.row
  unfold DTail at hblk
  have HD := Lib.hid d1
  have HK := Lib.hid hkn
  have HH := Lib.hid h
  have HA := Lib.hid ha
  have hmm := @run_makeMap Tryz.prog
  have hsm := store_map
  have BA := Lib.hid (fun w1 (g1 : (w.alloc (.cells #[.map none, .slice none 0 0, .map none, .int .i64 0, .map none, .slice none 0 0, .int .i64 0, .int .i64 0, .int .i64 0, .int .i64 0, .bool false] 77)).grownBy w1 (some w.heap.size)) => ((Below.refl _ w).alloc (Nat.le_refl _) _ : Below w.heap.size w (w.alloc (.cells #[.map none, .slice none 0 0, .map none, .int .i64 0, .map none, .slice none 0 0, .int .i64 0, .int .i64 0, .int .i64 0, .int .i64 0, .bool false] 77))).grown g1 (by simp) (fun r e => by cases e; exact Nat.le_refl _))
  have HW := Lib.hid hl
  clear d1 hkn h ha hl
  go_enter Tryz.func11, Tryz.ntmps11
  go_wp2_with (first
    | (refine wpList_load_row rfl 77 _ rfl p rfl 77 _ (0, 0) _ hblk Tryz.underlying77 rfl (by kernel_rfl) ?_)
    | (refine wpList_store_cells rfl 77 _ _ rfl w.heap.size rfl 77 _ _ rfl (heap_alloc_new w _) (by kernel_rfl) (by simp) (by simp [Value.oneCell']; done) ?_; intro w1 g1 h1 z1; have B1 := Lib.hid (BA.out _ g1); have G1 := Lib.hid g1; have H1 := Lib.hid h1; clear g1 h1)
    | (go_at_call 45; (with_reducible refine (QF.out _ B1.out).mono ?_); rintro e w2 ⟨q2, cv, Mc, Ic, rfl, f1, f2, f3, f4, f5, b2⟩; obtain ⟨m0, m2, hq2, hm⟩ := folder_moved f1; obtain ⟨z0, z2, hcv, _⟩ := (@FolderIn.row Fld.alone _ _ _ _ _ _ _ _ _ f1).shape; have f2' := Lib.hid (And.intro f2 (And.intro f3 (And.intro f4 f5))); have hm' := Lib.hid hm; have f1' := Lib.hid f1; have b2' := Lib.hid b2; have HQ := Lib.hid ((b2.block w.heap.size (by rw [z1]; simp)).trans H1.out); clear f1 f2 f3 f4 f5 hm b2; subst hcv)
    | (refine wpList_load_row rfl 71 _ rfl q2 rfl 71 _ (0, 0) _ hq2 Tryz.underlying71 rfl (by kernel_rfl) ?_)
    | (refine wpList_store_cells rfl 71 _ _ rfl w.heap.size rfl 77 _ _ rfl HQ.out (by kernel_rfl) (by simp) (by simp [Value.oneCell']; done) ?_; intro w3 g3 h3 z3; simp only [List.cons_append, List.nil_append, List.size_toArray, List.length_cons, List.length_nil, Nat.zero_add, Nat.reduceAdd, List.drop_succ_cons, List.drop_zero, List.drop_nil, List.append_nil] at h3; have k4 : w3.cell? ⟨w.heap.size, 4, none⟩ = some (.map (some m)) := (by rw [cell_of_row _ _ _ _ _ _ h3]; rfl); have fz4 : w3.frozen? ⟨w.heap.size, 4, none⟩ = false := free_of h3 4; have hlt3 : w.heap.size < w3.heap.size := (Array.getElem?_eq_some_iff.1 h3).1; have BZ := (Below.next B1.out b2'.out).grown g3 (Below.next B1.out b2'.out).size (fun r e => by cases e; exact Nat.le_refl _); have BF := (BZ.grown (grown_setCell w3 w.heap.size 4 (.map (some w3.heap.size))) BZ.size (fun r e => by cases e; exact Nat.le_refl _)).alloc (by simp; exact BZ.size) (.map #[] 0); obtain ⟨W4, hW4⟩ : ∃ W, (w3.setCell ⟨w.heap.size, 4, none⟩ (.map (some w3.heap.size))).alloc (.map #[] 0) = W := ⟨_, rfl⟩; rw [hW4] at BF; have CI := Lib.hid (HS.out _ _ _ _ _ _ _ _ _ _ _ rfl G1.out H1.out f1'.out f2'.out.1 f2'.out.2.1 f2'.out.2.2.1 b2'.out hm'.out g3 h3 z3 hW4.symm); have kp4 : ((w3.setCell ⟨w.heap.size, 4, none⟩ (.map (some w3.heap.size))).alloc (.map #[] 0)).cell? ⟨p, 4, none⟩ = some (.map (some m)) := (by rw [hW4]; exact (HP.out _ BF).1); have kp4' := (HP.out _ BF).1; have BF4 := Lib.hid BF; clear g3 h3 z3 hq2 BF BZ)
    | (at_range; (try rw [hW4]); refine wpList_range_files rfl _ rfl m P rfl (HM.out _ BF4.out) ?_; intro w5 N D cnt0 r5 g5 z5)
    | fail)
  go_frame
  obtain ⟨u0, ci0, cu1, cu2, cu3⟩ := CI.out
  have zr : w.heap.size ≤ W4.heap.size := BF4.out.size
  go_loopw [4, 5] (fun _ _ wr => ∃ (left : Lit → Bool) (cnt : Nat) (u : DV) (Pc : Nat → Option Nat), FilesR wr m W4.heap.size N P D left cnt ∧ CopyIn w wr w.heap.size w3.heap.size S v u (.slice ad lost.length cl) armed Pc ∧ (u.av = .slice z0 v.fs.length z2 ∧ u.fs = v.fs ∧ ∀ k, ¬ u.M k W4.heap.size) ∧ (∀ n c, Pc n = some c → ∃ b, P n = some b) ∧ ∀ n b, P n = some b → (∃ c, Pc n = some c) ∨ left (.int .i64 (n : Int)) = true)
    (fun _ _ wr => wr.rangeLeft m W4.heap.size)
  case atStart =>
    refine ⟨_, _, u0, fun _ => none, r5, ci0.turned g5 (fun r e => by cases e), ⟨cu1, cu2, cu3⟩, (fun n c h => by cases h), fun n b hb => .inr ?_⟩
    rw [r5.has, hb]; rfl
  case round =>
    obtain ⟨left, cnt, u, Pc, hrg, hci, hu, hsub, hall⟩ := hrel
    have HCI := Lib.hid hci
    have HALL := Lib.hid hall
    have HU := Lib.hid hu
    have HSUB := Lib.hid hsub
    have HRG := Lib.hid hrg
    have kp5 := (HP.out _ hci.below).2
    clear hci hall hu hsub hrg
    go_wp2_with (first
      | (at_next; refine wpList_next_files rfl _ rfl m W4.heap.size N P D left cnt rfl HRG.out ?_ ?_)
      | fail)
    · intro hl0
      have QL := Lib.hid (clone_lost (HD.out.row) HCI.out.below (by have := HK.out.2.2; have h4 : S.fold.A.length ≤ S.fold.weight := (by unfold Fld.FS.weight; omega); have := HW.out; omega))
      go_wp2_with (first
        | (go_at_call 47; (with_reducible refine QL.out.mono ?_); rintro e w6 ⟨ad6, c6, rfl, r6, b6⟩; obtain ⟨k5, f5, hlt5⟩ := (HCI.out.cell5 b6))
        | fail)
      go_ret
      obtain ⟨u', y1, y2, y3, y4, y5, y6⟩ := HCI.out.done HD.out HK.out HH.out.good HH.out.room (fun n b hb => (HALL.out n b hb).elim id fun h => by rw [hl0] at h; cases h) HSUB.out b6 r6
      exact ⟨_, u', rfl, y1, y2, y3, by rw [y4, HU.out.1]; exact f2'.out.2.2.1, by rw [y4, HU.out.1]; exact f2'.out.2.2.2, y5.trans HU.out.2.1, y6⟩
    · intro n b w1 cnt1 hPn hln hrg1 hlt hg1 hs1 hen
      go_upto_region 9 with fail
      have hci1 := HCI.out.turned hg1 (fun r e => by cases e; exact ⟨zr, HU.out.2.2⟩)
      have fb := (HD.out.files n b hPn).1
      have QC := Lib.hid (fun W (hW : Below w1.heap.size w1 W) => copy_any (fb.below (Below.next hci1.below hW)) (HA.out n))
      have HCI1 := Lib.hid hci1
      have K4 := Lib.hid (fun W (hW : Below w1.heap.size w1 W) => (HCI1.out.cell4 hW))
      have k4a := K4.out w1 (Below.refl _ _)
      have HRG1 := Lib.hid hrg1
      clear hci1 fb hrg1 hg1 hen
      have hN : ∀ x c, Pc x = some c → x < 100001 := fun x c hx => by
        obtain ⟨b2, hb2⟩ := HSUB.out x c hx
        have := (HD.out.files x b2 hb2).2.2
        have h4 : S.fold.n ≤ S.fold.weight := Nat.le_add_left _ _
        have := HW.out
        omega
      have hn5 : n ≤ 1000000000 := by
        have := (HD.out.files n b hPn).2.2
        have h4 : S.fold.n ≤ S.fold.weight := Nat.le_add_left _ _
        have := HW.out
        omega
      have HPUT := Lib.hid (fun W (hW : Below w1.heap.size w1 W) b' => (HCI1.out.map.same (hW.block _ HCI1.out.map.lt)).put hN (by omega) n b' hn5)
      clear hN hn5
      go_region_with ((go_at_call 46; (with_reducible refine Calls.mono (QC.out _ (by repeat (first | with_reducible exact Below.refl _ _ | (with_reducible apply below_drew'')))) ?_); rintro e w2 ⟨b', M', rfl, c1, c2, c3⟩; go_loud (have b12 : Below w1.heap.size w1 w2 := Below.next (by repeat (first | with_reducible exact Below.refl _ _ | (with_reducible apply below_drew''))) c3; have k4b := K4.out w2 b12; obtain ⟨w7, e7, h7, g7⟩ := HPUT.out w2 b12 b')))
      all_goals
        have hmw : m < w.heap.size := by
          rcases HD.out.map with ⟨e, _⟩ | ⟨m', e, hm⟩
          · cases e
          · cases e; exact hm.lt
        have hmc := HCI1.out.mapM
        have hmc0 := HCI1.out.fresh _ ⟨1, hmc⟩
        have hrlt := HRG1.out.it.lt
        have hrne : W4.heap.size ≠ w3.heap.size := fun e => HU.out.2.2 1 (by rw [e]; exact hmc)
        have hw1 := HCI1.out.below.size
        have hrg7 : FilesR w7 m W4.heap.size N P D (fun z => left z && !z.sameKey (.int .i64 (n : Int))) cnt1 := HRG1.out.kept ((g7.block m (by have := b12.size; omega) (fun e => by have := Option.some.inj e; omega)).trans (b12.block m (by omega))) ((g7.block _ (by have := b12.size; omega) (fun e => hrne (Option.some.inj e))).trans (b12.block _ hrlt))
        go_wp2
        refine ⟨⟨_, cnt1, _, _, hrg7, HCI1.out.add b12 c1 c2 g7 h7, ⟨HU.out.1, HU.out.2.1, fun k hk => ?_⟩, fun x c hx => ?_, fun x bx hx => ?_⟩, ?_⟩
        · by_cases e : k = n + 3
          · subst e
            simp only [pput_same] at hk
            have := c2 _ hk
            have e2 : w1.drew.heap.size = w1.heap.size := rfl
            omega
          · simp only [pput_other _ _ e] at hk
            exact HU.out.2.2 k hk
        · by_cases e : x = n
          · subst e; exact ⟨_, hPn⟩
          · rw [pset_other _ _ e] at hx
            exact HSUB.out x c hx
        · by_cases e : x = n
          · subst e; exact .inl ⟨_, pset_same _ _ _⟩
          · rcases HALL.out x bx hx with ⟨c, hc⟩ | hl
            · exact .inl ⟨c, by rw [pset_other _ _ e]; exact hc⟩
            · refine .inr ?_
              have : (Lit.int IntKind.i64 (x : Int)).sameKey (.int .i64 (n : Int)) = false := by
                simp [Lit.sameKey]; omega
              simp [hl, this]
        · rw [hrg7.it.left_eq, HRG.out.it.left_eq]; exact hlt

set_option maxHeartbeats 8000000 in
set_option maxRecDepth 100000 in
theorem copy_none {w : World} {p : Nat} {S : DS} {v : DV} {lv : Value} {lost : List Nat} {armed : Nat} {P : Nat → Option Nat} (h : DiskP w p S v) (d1 : DiskIn w p S S.used v (.map none) lv lost armed P) (hkn : KnownIn S.fold lost P) (hl : S.fold.weight ≤ 80000) :
    Calls Tryz.prog 11 #[.pointer (some ⟨p, 0, none⟩)] w fun e w' => Copied w S v e w' := by
  obtain ⟨x0, y0, y1, y2, x2, hblk⟩ := disk_block d1
  have HP : Hid (∀ W, Below w.heap.size w W → W.cell? ⟨p, 4, none⟩ = some (.map none) ∧ W.cell? ⟨p, 5, none⟩ = some lv) := Lib.hid fun W hW => by
    obtain ⟨k4, k5, _⟩ := d1.cells
    exact ⟨(hW.cell (p := ⟨p, 4, none⟩) d1.p_mem.2).trans k4, (hW.cell (p := ⟨p, 5, none⟩) d1.p_mem.2).trans k5⟩
  have QF := Lib.hid (fun W (hW : Below w.heap.size w W) => @Fld.copy_any (fin _) _ _ _ _ _ _ _ (@FolderIn.below (fin _) _ _ _ _ _ _ _ _ _ _ d1.fold hW) (by omega : S.fold.weight ≤ 90000))
  have HS := Lib.hid (fun w1 w2 w3 w4 q q2 cv Mc Ic m0 m2 => @copy_start w w1 w2 w3 w4 p q q2 S v (.map none) lv cv (.map x0) (.slice y0 y1 y2) (.map x2) (.int .i64 (S.fold.n : Int)) lost armed P Mc Ic m0 m2 h d1)
  have hP : P = fun _ => none := by
    rcases d1.map with ⟨_, e⟩ | ⟨m', e, _⟩
    · exact e
    · cases e
  obtain ⟨ad, cl, rfl⟩ := ownsSlice d1.row
  unfold DTail at hblk
  have HD := Lib.hid d1
  have HK := Lib.hid hkn
  have HH := Lib.hid h
  have hmm := @run_makeMap Tryz.prog
  have hsm := store_map
  have BA := Lib.hid (fun w1 (g1 : (w.alloc (.cells #[.map none, .slice none 0 0, .map none, .int .i64 0, .map none, .slice none 0 0, .int .i64 0, .int .i64 0, .int .i64 0, .int .i64 0, .bool false] 77)).grownBy w1 (some w.heap.size)) => ((Below.refl _ w).alloc (Nat.le_refl _) _ : Below w.heap.size w (w.alloc (.cells #[.map none, .slice none 0 0, .map none, .int .i64 0, .map none, .slice none 0 0, .int .i64 0, .int .i64 0, .int .i64 0, .int .i64 0, .bool false] 77))).grown g1 (by simp) (fun r e => by cases e; exact Nat.le_refl _))
  have HW := Lib.hid hl
  clear d1 hkn h hl
  go_enter Tryz.func11, Tryz.ntmps11
  go_wp2_with (first
    | (refine wpList_load_row rfl 77 _ rfl p rfl 77 _ (0, 0) _ hblk Tryz.underlying77 rfl (by kernel_rfl) ?_)
    | (refine wpList_store_cells rfl 77 _ _ rfl w.heap.size rfl 77 _ _ rfl (heap_alloc_new w _) (by kernel_rfl) (by simp) (by simp [Value.oneCell']; done) ?_; intro w1 g1 h1 z1; have B1 := Lib.hid (BA.out _ g1); have G1 := Lib.hid g1; have H1 := Lib.hid h1; clear g1 h1)
    | (go_at_call 45; (with_reducible refine (QF.out _ B1.out).mono ?_); rintro e w2 ⟨q2, cv, Mc, Ic, rfl, f1, f2, f3, f4, f5, b2⟩; obtain ⟨m0, m2, hq2, hm⟩ := folder_moved f1; obtain ⟨z0, z2, hcv, _⟩ := (@FolderIn.row Fld.alone _ _ _ _ _ _ _ _ _ f1).shape; have f2' := Lib.hid (And.intro f2 (And.intro f3 (And.intro f4 f5))); have hm' := Lib.hid hm; have f1' := Lib.hid f1; have b2' := Lib.hid b2; have HQ := Lib.hid ((b2.block w.heap.size (by rw [z1]; simp)).trans H1.out); clear f1 f2 f3 f4 f5 hm b2; subst hcv)
    | (refine wpList_load_row rfl 71 _ rfl q2 rfl 71 _ (0, 0) _ hq2 Tryz.underlying71 rfl (by kernel_rfl) ?_)
    | (refine wpList_store_cells rfl 71 _ _ rfl w.heap.size rfl 77 _ _ rfl HQ.out (by kernel_rfl) (by simp) (by simp [Value.oneCell']; done) ?_; intro w3 g3 h3 z3; simp only [List.cons_append, List.nil_append, List.size_toArray, List.length_cons, List.length_nil, Nat.zero_add, Nat.reduceAdd, List.drop_succ_cons, List.drop_zero, List.drop_nil, List.append_nil] at h3; have k4 : w3.cell? ⟨w.heap.size, 4, none⟩ = some (.map none) := (by rw [cell_of_row _ _ _ _ _ _ h3]; rfl); have fz4 : w3.frozen? ⟨w.heap.size, 4, none⟩ = false := free_of h3 4; have hlt3 : w.heap.size < w3.heap.size := (Array.getElem?_eq_some_iff.1 h3).1; have BZ := (Below.next B1.out b2'.out).grown g3 (Below.next B1.out b2'.out).size (fun r e => by cases e; exact Nat.le_refl _); have BF := (BZ.grown (grown_setCell w3 w.heap.size 4 (.map (some w3.heap.size))) BZ.size (fun r e => by cases e; exact Nat.le_refl _)).alloc (by simp; exact BZ.size) (.map #[] 0); obtain ⟨W4, hW4⟩ : ∃ W, (w3.setCell ⟨w.heap.size, 4, none⟩ (.map (some w3.heap.size))).alloc (.map #[] 0) = W := ⟨_, rfl⟩; rw [hW4] at BF; have CI := Lib.hid (HS.out _ _ _ _ _ _ _ _ _ _ _ rfl G1.out H1.out f1'.out f2'.out.1 f2'.out.2.1 f2'.out.2.2.1 b2'.out hm'.out g3 h3 z3 hW4.symm); have kp4 : ((w3.setCell ⟨w.heap.size, 4, none⟩ (.map (some w3.heap.size))).alloc (.map #[] 0)).cell? ⟨p, 4, none⟩ = some (.map none) := (by rw [hW4]; exact (HP.out _ BF).1); have kp4' := (HP.out _ BF).1; have BF4 := Lib.hid BF; obtain ⟨u0, ci0, cu1, cu2, cu3⟩ := CI.out; have BF5 : Below w.heap.size w (W4.alloc (.mapIter none 0 #[] 0)) := BF.alloc BF.size _; have kp5 := (HP.out _ BF5).2; have CI5 := ci0.turned (World.grownBy_alloc W4 (.mapIter none 0 #[] 0) none) (fun r e => by cases e); have QL := Lib.hid (clone_lost (HD.out.row) BF5 (by have := HK.out.2.2; have h4 : S.fold.A.length ≤ S.fold.weight := (by unfold Fld.FS.weight; omega); have := HW.out; omega)); have hrgN := run_range_nilMap (P := Tryz.prog) W4 74 _ _ Tryz.underlying74; have hnxN : ∀ ty, (Instr.next (.pointer (some ⟨W4.heap.size, 0, none⟩)) false ty).run Tryz.prog (W4.alloc (.mapIter none 0 #[] 0)) = _ := fun ty => run_next_nilMap W4 ty 0 0 #[]; clear g3 h3 z3 hq2 BF BZ)
    | (go_at_call 47; go_loud ((with_reducible refine QL.out.mono ?_); rintro e w6 ⟨ad6, c6, rfl, r6, b6⟩; obtain ⟨k5, f5, hlt5⟩ := (CI5.cell5 b6)))
    | fail)
  refine wp_loop_rounds 1 ?_
  rw [rounds_succ]
  go_wp2_with (go_at_call 47; go_loud ((with_reducible refine QL.out.mono ?_); rintro e w6 ⟨ad6, c6, rfl, r6, b6⟩; obtain ⟨k5, f5, hlt5⟩ := (CI5.cell5 b6)))
  go_ret
  subst hP
  obtain ⟨u', y1, y2, y3, y4, y5, y6⟩ := CI5.done HD.out HK.out HH.out.good HH.out.room (fun n b hb => by cases hb) (fun n c hc => by cases hc) b6 r6
  exact ⟨_, u', rfl, y1, y2, y3, by rw [y4, cu1]; exact f2'.out.2.2.1, by rw [y4, cu1]; exact f2'.out.2.2.2, y5.trans cu2, y6⟩

theorem disk_copy {w : World} {p : Nat} {S : DS} {v : DV} (h : DiskP w p S v) (hl : S.fold.weight ≤ 80000) (ha : ∀ n, (S.file n).A.length ≤ 1000) :
    Calls Tryz.prog 11 #[.pointer (some ⟨p, 0, none⟩)] w fun e w' => Copied w S v e w' := by
  obtain ⟨fv, lv, lost, armed, P, h1, hkn⟩ := h.it
  rcases h1.map with ⟨rfl, _⟩ | ⟨m, rfl, _⟩
  · exact copy_none h h1 hkn hl
  · exact copy_some h h1 hkn hl ha
end Go.Proofs.YtmmoilmfpiclgaaGreat
namespace Go.Proofs.YtmmoilmfpiclgaaGreat
open Go.RowKit Go.Shelf
open Fld (FS Names FAct actsOn foundN foundB findT withT withoutT GoodN Rising mayB nam nameMax FolderS FolderIn ARow textsOf)

theorem Flock.mono {w0 W : World} {n m : Nat} {L : List (Nat × DS)} (h : Flock w0 W n L) (hn : n ≤ m) : Flock w0 W m L := by
  obtain ⟨vs, h1, h2, h3, h4⟩ := h
  exact ⟨vs, h1, h2, fun i j hi hj hij hm => h3 i j hi hj hij (by omega), h4⟩
/-- A copy comes: what is older than it may not be changed any more, as long as it is there. -/
theorem flock_copy {w0 W : World} {n : Nat} {L : List (Nat × DS)} (h : Flock w0 W n L) (i : Nat) (hi : i < L.length) (hin : i < n) (hf : L[i].2.Fit) :
    Calls Tryz.prog 11 #[.pointer (some ⟨L[i].1, 0, none⟩)] W fun e w' => ∃ q, e = .returned (.pointer (some ⟨q, 0, none⟩)) ∧ Flock w0 w' n (L ++ [(q, L[i].2)]) := by
  obtain ⟨vs, h1, h2, h3, h4⟩ := h
  have hi' : i < vs.length := by omega
  obtain ⟨d, d'⟩ := h2 i hi hi'
  refine (disk_copy d hf.weight (fun m => Nat.le_trans (hf.1.acts m) (by decide))).mono ?_
  rintro e w' ⟨q, u, rfl, hd, hM, hI, _, _, _, hb⟩
  have old : ∀ j (hj : j < vs.length) g, All vs[j].M g ∨ All vs[j].I g → g < W.heap.size := fun j hj g hg => (h2 j (by omega) hj).1.blocks g hg
  have hI' : ∀ g, All u.I g → All vs[i].M g ∨ All vs[i].I g := fun g hg => by
    rcases hI g hg with k | k
    · exact .inr k
    · obtain ⟨fv, lv, lost, armed, P, k1, _⟩ := d.it
      rcases k1.rowIn g k with k | k
      · exact .inl ⟨0, k⟩
      · exact .inr ⟨0, k⟩
  refine ⟨q, rfl, vs ++ [u], by simp [h1], fun j hj hj' => ?_, fun a b ha hb' hab hna g h5 h6 => ?_, Below.next h4 hb⟩
  · by_cases e : j < L.length
    · simp only [List.getElem_append_left e, List.getElem_append_left (show j < vs.length by omega)]
      exact ⟨(h2 j e (by omega)).1.below hb, (h2 j e (by omega)).2⟩
    · have e1 : j = L.length := by simp at hj; omega
      subst e1
      simp only [List.getElem_append_right (Nat.le_refl L.length), List.getElem_append_right (show vs.length ≤ L.length by omega), Nat.sub_self, h1, List.getElem_singleton]
      refine ⟨hd, fun g hg => ?_⟩
      rcases hg with hg | hg
      · exact Nat.le_trans h4.size (hM g hg)
      · exact d' g (hI' g hg)
  · by_cases ea : a < vs.length <;> by_cases eb : b < vs.length
    · simp only [List.getElem_append_left ea] at h5
      simp only [List.getElem_append_left eb] at h6
      exact h3 a b ea eb hab hna g h5 h6
    · have e1 : b = vs.length := by simp at hb'; omega
      subst e1
      simp only [List.getElem_append_left ea] at h5
      simp only [List.getElem_append_right (Nat.le_refl vs.length), Nat.sub_self, List.getElem_singleton] at h6
      have h7 := old a ea g (.inl h5)
      rcases h6 with h6 | h6
      · have := hM g h6; omega
      · exact h3 a i ea hi' (by omega) hna g h5 (hI' g h6)
    · have e1 : a = vs.length := by simp at ha; omega
      subst e1
      simp only [List.getElem_append_right (Nat.le_refl vs.length), Nat.sub_self, List.getElem_singleton] at h5
      simp only [List.getElem_append_left eb] at h6
      have := old b eb g h6
      have := hM g h5
      omega
    · simp at ha hb'; omega
/-- A disk of files, or none. -/
theorem flock_of {w0 W : World} {n : Nat} {L : List (Nat × DS)} (h : Flock w0 W n L) {W1 : World} (hb1 : Below W.heap.size W W1) {lv : Value} {l : FL} (q : Nat) (hq : q ≤ 1000000000000) (hl : FRow W1 lv l) (hlen : l.length ≤ 20000) (hs : ∀ x ∈ l, x.1.length ≤ nameMax ∧ x.2.length ≤ 100000) {S : DS} (hS : DS.of q l = some S) :
    Calls Tryz.prog 7 #[lv, .int .i64 (q : Int)] W1 fun e w' => ∃ p, e = .returned (.pointer (some ⟨p, 0, none⟩)) ∧ Flock w0 w' n (L ++ [(p, S)]) := by
  refine (of_any q hq hl hlen hs).mono ?_
  rintro e w' (⟨h1, _⟩ | ⟨S', p, v, h1, rfl, h2, h3, h4⟩)
  · rw [h1] at hS; cases hS
  · rw [h1] at hS
    cases hS
    exact ⟨p, rfl, (h.next hb1).add h2 h3 h4⟩
theorem flock_of_none {w0 W : World} {n : Nat} {L : List (Nat × DS)} (h : Flock w0 W n L) {W1 : World} (hb1 : Below W.heap.size W W1) {lv : Value} {l : FL} (q : Nat) (hq : q ≤ 1000000000000) (hl : FRow W1 lv l) (hlen : l.length ≤ 20000) (hs : ∀ x ∈ l, x.1.length ≤ nameMax ∧ x.2.length ≤ 100000) (hS : DS.of q l = none) :
    Calls Tryz.prog 7 #[lv, .int .i64 (q : Int)] W1 fun e w' => e = .returned (.pointer none) ∧ Flock w0 w' n L := by
  refine (of_any q hq hl hlen hs).mono ?_
  rintro e w' (⟨_, rfl, h2⟩ | ⟨S', p, v, h1, _⟩)
  · exact ⟨rfl, (h.next hb1).next h2⟩
  · rw [h1] at hS; cases hS
set_option maxHeartbeats 1000000 in
set_option maxRecDepth 100000 in
theorem of_less (w : World) {lv : Value} {k : Int} (hk : k < 0) : Calls Tryz.prog 7 #[lv, .int .i64 k] w fun e w' => e = .returned (.pointer none) ∧ w = w' := by
  have Q := new_none w hk
  go_enter Tryz.func7, Tryz.ntmps7
  go_wp2_with (go_at_call 9; (with_reducible refine Q.mono ?_); rintro e w1 ⟨rfl, rfl⟩)
  go_ret
  exact ⟨rfl, rfl⟩

/-! rows that have just been laid -/
theorem strs_laid (xs : List ByteArray) (W : World) : Strs (W.alloc (.cells (xs.map Value.string).toArray 9)) (.slice (some ⟨W.heap.size, 0, none⟩) xs.length xs.length) xs := by
  refine ⟨_, _, rfl, fun i hi => ⟨_, _, rfl, ?_⟩⟩
  rw [World.cell?_alloc_at (hn := rfl)]
  simp [List.getD, hi]
theorem frow_laid (l : FL) (W : World) : FRow (W.alloc (.cells (filesC l).toArray 26)) (.slice (some ⟨W.heap.size, 0, none⟩) l.length l.length) l := by
  refine ⟨_, _, rfl, fun i hi => ⟨_, _, rfl, ?_, ?_⟩⟩
  · rw [World.cell?_alloc_at (hn := rfl)]
    have := (filesC_at l i hi).1
    simpa using this
  · rw [World.cell?_alloc_at (hn := rfl)]
    have := (filesC_at l i hi).2
    simpa [Nat.add_assoc] using this
theorem row16_laid (l : List Nat) (h : ∀ x ∈ l, x ≤ 65535) (W : World) : Row16 (W.alloc (.cells (l.map fun x : Nat => Value.int .u16 (x : Int)).toArray 57)) (.slice (some ⟨W.heap.size, 0, none⟩) l.length l.length) l := by
  refine ⟨_, _, rfl, fun i hi => ⟨_, _, rfl, ?_, ?_⟩⟩
  · rw [World.cell?_alloc_at (hn := rfl)]
    simp [List.getD, hi]
  · rw [show l.getD i 0 = l[i] by simp [List.getD, hi]]
    exact h _ (List.getElem_mem hi)
theorem has_strs {w0 W : World} {n : Nat} {L : List (Nat × DS)} (h : Flock w0 W n L) (i : Nat) (hi : i < L.length) (hf : L[i].2.Fit) (xs : List ByteArray) (hlen : xs.length = 2 * L[i].2.files.length) (hm : L[i].2.files.length ≤ 100000) (hp : ∀ k, k < L[i].2.files.length → Fld.strO (flAt L[i].2.files k).1 = xs.getD (2 * k) ⟨#[]⟩ ∧ Fld.strO (flAt L[i].2.files k).2 = xs.getD (2 * k + 1) ⟨#[]⟩) :
    Calls Tryz.prog 35 #[.pointer (some ⟨L[i].1, 0, none⟩), .slice (some ⟨W.heap.size, 0, none⟩) xs.length xs.length] (W.alloc (.cells (xs.map Value.string).toArray 9)) fun e w' => e = .returned (.bool true) ∧ Flock w0 w' n L := by
  have hb : Below W.heap.size W (W.alloc (.cells (xs.map Value.string).toArray 9)) := (Below.refl _ W).alloc (Nat.le_refl _) _
  refine (h.next hb).read i hi fun v hv => ?_
  exact (has_true hv hf.weight (strs_laid xs W) hlen hm hp).mono fun e w' ⟨he, hw⟩ => ⟨he, (h.next hb).next hw⟩

/-! joins -/
theorem join_nil {c : Nat} (a : Option Addr) (W : World) : Calls Tryz.prog 52 #[.slice a 0 c, .string ⟨#[]⟩] W fun e w' => e = .returned (.string ⟨#[]⟩) ∧ Below W.heap.size W w' :=
  (Tryz.strings_Join_none a c ⟨#[]⟩ W).mono fun e w' ⟨he, hw⟩ => ⟨he, by subst hw; exact Below.refl _ _⟩
theorem flock_append0 {w0 W : World} {n : Nat} {L : List (Nat × DS)} (h : Flock w0 W n L) (i : Nat) (hi : i < L.length) (hn : n ≤ i) (hf : L[i].2.Fit) (s : ByteArray) (hs : s.size ≤ nameMax) :
    Calls Tryz.prog 13 #[.pointer (some ⟨L[i].1, 0, none⟩), .string s, .slice none 0 0] W fun e w' => e = .returned (.int .i64 (((L[i].2.append s []).2 : Nat) : Int)) ∧ Flock w0 w' n (L.set i (L[i].1, (L[i].2.append s []).1)) :=
  flock_append h i hi hn hf s ⟨#[]⟩ hs ⟨_, _, _, rfl⟩ (by decide) fun W' _ => join_nil none W'

theorem join_flat : ∀ xs : List (List UInt8), Lib.join xs [] = xs.flatten
  | [] => rfl
  | [x] => by simp [Lib.join]
  | x :: y :: l => by
    have := join_flat (y :: l)
    simp [Lib.join] at this ⊢
    exact this
theorem join_row {W : World} {b : Nat} {xs : List ByteArray} (hn : xs.length ≤ 1000000) (hx : (joined xs).length ≤ 140737488355328) (hb : W.heap[b]? = some (.cells (xs.map Value.string).toArray 9 (0, 0))) :
    Calls Tryz.prog 52 #[.slice (some ⟨b, 0, none⟩) xs.length xs.length, .string ⟨#[]⟩] W fun e w' => e = .returned (.string ⟨(joined xs).toArray⟩) ∧ Below W.heap.size W w' := by
  have hj : Lib.join (xs.map (·.data.toList)) (⟨#[]⟩ : ByteArray).data.toList = joined xs := by
    show Lib.join _ [] = _
    rw [join_flat]
    unfold joined
    rw [List.flatMap_def]
  have q := Tryz.strings_Join b 0 xs.length xs ⟨#[]⟩ W (fun j y hj => by
    rw [Nat.zero_add, cell_of_row W b j _ 9 (0, 0) hb]
    simp [hj]) (Array.getElem?_eq_some_iff.1 hb).1 (by omega) (Nat.le_refl _) (by rw [hj]; exact hx)
  rw [hj] at q
  exact q
theorem flock_appends {w0 W : World} {n : Nat} {L : List (Nat × DS)} (h : Flock w0 W n L) (i : Nat) (hi : i < L.length) (hn : n ≤ i) (hf : L[i].2.Fit) (s : ByteArray) (xs : List ByteArray) (hs : s.size ≤ nameMax) (hxn : xs.length ≤ 1000000) (hx : (joined xs).length ≤ 140737488355328) :
    Calls Tryz.prog 13 #[.pointer (some ⟨L[i].1, 0, none⟩), .string s, .slice (some ⟨W.heap.size, 0, none⟩) xs.length xs.length] (W.alloc (.cells (xs.map Value.string).toArray 9)) fun e w' => e = .returned (.int .i64 (((L[i].2.append s (joined xs)).2 : Nat) : Int)) ∧ Flock w0 w' n (L.set i (L[i].1, (L[i].2.append s (joined xs)).1)) :=
  flock_append (h.next ((Below.refl _ W).alloc (Nat.le_refl _) _)) i hi hn hf s ⟨(joined xs).toArray⟩ hs ⟨_, _, _, rfl⟩ (by show (joined xs).toArray.size ≤ _; simp; omega) fun W' hk => join_row hxn hx (hk _ _ _ (heap_alloc_new W _) (by decide))

/-! a disk that is none -/
set_option maxHeartbeats 1000000 in
set_option maxRecDepth 100000 in
theorem asked_nil (w : World) (F : Nat) (caps : Array Value) :
    Calls Tryz.prog 48 #[.pointer none, .func (.func F) #[] caps] w fun e w' => ∃ bd bo, e = .returned (.func (.func 107) #[] #[.pointer (some ⟨bd, 0, none⟩), .pointer (some ⟨bo, 0, none⟩)]) ∧
      w'.heap[bd]? = some (.cells #[.pointer none] 27 (0, 0)) ∧ Below w.heap.size w w' := by
  go_enter Tryz.func48, Tryz.ntmps48
  go_wp2
  go_ret
  refine ⟨_, _, rfl, ?_, ?_⟩
  · exact (Below.heap_alloc _ _ _ (by simp)).trans (World.alloc_heap_new w _)
  · exact ((Below.refl _ w).alloc (Nat.le_refl _) _).alloc (by simp) _
set_option maxHeartbeats 1000000 in
set_option maxRecDepth 100000 in
theorem asked1_nil {w : World} {bd bo : Nat} (h : w.heap[bd]? = some (.cells #[.pointer none] 27 (0, 0))) :
    Calls Tryz.prog 107 #[.pointer (some ⟨bd, 0, none⟩), .pointer (some ⟨bo, 0, none⟩)] w fun e w' => e = .returned (.int .i64 1) ∧ w = w' := by
  have k : w.cell? ⟨bd, 0, none⟩ = some (.pointer none) := by rw [cell_of_row w bd 0 _ _ _ h]; rfl
  clear h
  go_enter Tryz.func107, Tryz.ntmps107
  go_wp2
  go_ret
  exact ⟨rfl, rfl⟩
set_option maxHeartbeats 1000000 in
set_option maxRecDepth 100000 in
theorem nil_create (w : World) (s : ByteArray) : Calls Tryz.prog 12 #[.pointer none, .string s] w fun e w' => e = .returned (.int .i64 1) ∧ Below w.heap.size w w' := by
  have b1 := below_duo w (.cells #[.pointer none] 27) (.cells #[.string s] 9)
  obtain ⟨o1, _⟩ := heap_two w (.cells #[.pointer none] 27) (.cells #[.string s] 9)
  obtain ⟨w1, hw1⟩ : ∃ w1, (w.alloc (.cells #[.pointer none] 27)).alloc (.cells #[.string s] 9) = w1 := ⟨_, rfl⟩
  rw [hw1] at b1 o1
  have k1 : w1.cell? ⟨w.heap.size, 0, none⟩ = some (.pointer none) := by rw [cell_of_row w1 _ 0 _ _ _ o1]; rfl
  clear o1
  go_enter Tryz.func12, Tryz.ntmps12
  go_wp2_with (first
    | (go_at_call 48; (with_reducible refine (asked_nil _ _ _).mono ?_); rintro e w2 ⟨bd, bo, rfl, e1, b2⟩)
    | ((with_reducible refine (asked1_nil e1).mono ?_); rintro e w3 ⟨rfl, rfl⟩))
  go_ret
  exact ⟨rfl, Below.next b1 b2⟩
set_option maxHeartbeats 1000000 in
set_option maxRecDepth 100000 in
theorem nil_syncDir (w : World) : Calls Tryz.prog 24 #[.pointer none] w fun e w' => e = .returned (.int .i64 1) ∧ Below w.heap.size w w' := by
  have b1 : Below w.heap.size w (w.alloc (.cells #[.pointer none] 27)) := (Below.refl _ w).alloc (Nat.le_refl _) _
  have o1 := World.alloc_heap_new w (.cells #[.pointer none] 27)
  obtain ⟨w1, hw1⟩ : ∃ w1, w.alloc (.cells #[.pointer none] 27) = w1 := ⟨_, rfl⟩
  rw [hw1] at b1 o1
  have k1 : w1.cell? ⟨w.heap.size, 0, none⟩ = some (.pointer none) := by rw [cell_of_row w1 _ 0 _ _ _ o1]; rfl
  clear o1
  go_enter Tryz.func24, Tryz.ntmps24
  go_wp2_with (first
    | (go_at_call 48; (with_reducible refine (asked_nil _ _ _).mono ?_); rintro e w2 ⟨bd, bo, rfl, e1, b2⟩)
    | ((with_reducible refine (asked1_nil e1).mono ?_); rintro e w3 ⟨rfl, rfl⟩))
  go_ret
  exact ⟨rfl, Below.next b1 b2⟩
set_option maxHeartbeats 1000000 in
set_option maxRecDepth 100000 in
theorem change_nil (w : World) (s : ByteArray) (F : Nat) (caps : Array Value) : Calls Tryz.prog 50 #[.pointer none, .string s, .func (.func F) #[] caps] w fun e w' => e = .returned (.int .i64 1) ∧ Below w.heap.size w w' := by
  have b1 := below_three w (.cells #[.pointer none] 27) (.cells #[.string s] 9) (.cells #[.func (.func F) #[] caps] 98)
  obtain ⟨o1, _, _⟩ := heap_three w (.cells #[.pointer none] 27) (.cells #[.string s] 9) (.cells #[.func (.func F) #[] caps] 98)
  obtain ⟨w1, hw1⟩ : ∃ w1, ((w.alloc (.cells #[.pointer none] 27)).alloc (.cells #[.string s] 9)).alloc (.cells #[.func (.func F) #[] caps] 98) = w1 := ⟨_, rfl⟩
  rw [hw1] at b1 o1
  have k1 : w1.cell? ⟨w.heap.size, 0, none⟩ = some (.pointer none) := by rw [cell_of_row w1 _ 0 _ _ _ o1]; rfl
  clear o1
  go_enter Tryz.func50, Tryz.ntmps50
  go_wp2_with (first
    | (go_at_call 48; (with_reducible refine (asked_nil _ _ _).mono ?_); rintro e w2 ⟨bd, bo, rfl, e1, b2⟩)
    | ((with_reducible refine (asked1_nil e1).mono ?_); rintro e w3 ⟨rfl, rfl⟩))
  go_ret
  exact ⟨rfl, Below.next b1 b2⟩
set_option maxHeartbeats 1000000 in
set_option maxRecDepth 100000 in
theorem nil_append (w : World) (s : ByteArray) (ad : Option Addr) (m c : Nat) : Calls Tryz.prog 13 #[.pointer none, .string s, .slice ad m c] w fun e w' => e = .returned (.int .i64 1) ∧ Below w.heap.size w w' := by
  have b1 := below_duo w (.cells #[.pointer none] 27) (.cells #[.slice ad m c] 62)
  obtain ⟨o1, _⟩ := heap_two w (.cells #[.pointer none] 27) (.cells #[.slice ad m c] 62)
  obtain ⟨w1, hw1⟩ : ∃ w1, (w.alloc (.cells #[.pointer none] 27)).alloc (.cells #[.slice ad m c] 62) = w1 := ⟨_, rfl⟩
  rw [hw1] at b1 o1
  have k1 : w1.cell? ⟨w.heap.size, 0, none⟩ = some (.pointer none) := by rw [cell_of_row w1 _ 0 _ _ _ o1]; rfl
  clear o1
  go_enter Tryz.func13, Tryz.ntmps13
  go_wp2_with (go_at_call 50; (with_reducible refine (change_nil _ _ _ _).mono ?_); rintro e w2 ⟨rfl, b2⟩)
  go_ret
  exact ⟨rfl, Below.next b1 b2⟩
set_option maxHeartbeats 1000000 in
set_option maxRecDepth 100000 in
theorem nil_down (w : World) : Calls Tryz.prog 32 #[.pointer none] w fun e w' => e = .returned (.bool true) ∧ w = w' := by
  go_enter Tryz.func32, Tryz.ntmps32
  go_wp2
  go_ret
  exact ⟨rfl, rfl⟩
set_option maxHeartbeats 1000000 in
set_option maxRecDepth 100000 in
theorem nil_used (w : World) : Calls Tryz.prog 19 #[.pointer none] w fun e w' => e = .returned (.int .i64 0) ∧ w = w' := by
  go_enter Tryz.func19, Tryz.ntmps19
  go_wp2_with (go_at_call 32; (with_reducible refine (nil_down _).mono ?_); rintro e w2 ⟨rfl, rfl⟩)
  go_ret
  exact ⟨rfl, rfl⟩
set_option maxHeartbeats 1000000 in
set_option maxRecDepth 100000 in
theorem nil_quota (w : World) : Calls Tryz.prog 36 #[.pointer none] w fun e w' => e = .returned (.int .i64 0) ∧ w = w' := by
  go_enter Tryz.func36, Tryz.ntmps36
  go_wp2
  go_ret
  exact ⟨rfl, rfl⟩
set_option maxHeartbeats 1000000 in
set_option maxRecDepth 100000 in
theorem nil_steps (w : World) : Calls Tryz.prog 37 #[.pointer none] w fun e w' => e = .returned (.int .i64 0) ∧ w = w' := by
  go_enter Tryz.func37, Tryz.ntmps37
  go_wp2
  go_ret
  exact ⟨rfl, rfl⟩
set_option maxHeartbeats 1000000 in
set_option maxRecDepth 100000 in
theorem nil_list (w : World) : Calls Tryz.prog 33 #[.pointer none] w fun e w' => e = .returned (.slice none 0 0) ∧ Below w.heap.size w w' := by
  go_enter Tryz.func33, Tryz.ntmps33
  go_wp2_with (go_at_call 32; (with_reducible refine (nil_down _).mono ?_); rintro e w2 ⟨rfl, rfl⟩)
  go_ret
  exact ⟨rfl, Below.refl _ _⟩
set_option maxHeartbeats 1000000 in
set_option maxRecDepth 100000 in
theorem nil_copy (w : World) : Calls Tryz.prog 11 #[.pointer none] w fun e w' => e = .returned (.pointer none) ∧ w = w' := by
  go_enter Tryz.func11, Tryz.ntmps11
  go_wp2
  go_ret
  exact ⟨rfl, rfl⟩
set_option maxHeartbeats 1000000 in
set_option maxRecDepth 100000 in
theorem nil_files (w : World) : Calls Tryz.prog 28 #[.pointer none] w fun e w' => e = .returned (.slice none 0 0) ∧ Below w.heap.size w w' := by
  have b1 : Below w.heap.size w (w.alloc (.cells #[.pointer none] 27)) := (Below.refl _ w).alloc (Nat.le_refl _) _
  go_enter Tryz.func28, Tryz.ntmps28
  go_wp2_with (go_at_call 32; (with_reducible refine (nil_down _).mono ?_); rintro e w' ⟨rfl, rfl⟩)
  go_ret
  exact ⟨rfl, b1⟩

/-! what is asked of one of several -/
section
variable {w0 W : World} {n : Nat} {L : List (Nat × DS)} (h : Flock w0 W n L) (i : Nat) (hi : i < L.length) (hf : L[i].2.Fit)
include h hf
theorem flock_size (s : ByteArray) (hs : s.size ≤ nameMax) : Calls Tryz.prog 34 #[.pointer (some ⟨L[i].1, 0, none⟩), .string s] W fun e w' => e = .returned (.tuple #[.int .i64 ((L[i].2.size s).1 : Nat), .int .i64 ((L[i].2.size s).2 : Nat)]) ∧ W = w' :=
  h.read i hi fun _ hv => disk_size hv s hs hf.n
theorem flock_readAt (s : ByteArray) (a n' : Int) (hs : s.size ≤ nameMax) (h1 : -9223372036854775808 ≤ n') (h2 : n' ≤ 9223372036854775807) (h3 : a ≤ 9223372036854775807) : Calls Tryz.prog 23 #[.pointer (some ⟨L[i].1, 0, none⟩), .string s, .int .i64 a, .int .i64 n'] W fun e w' => e = .returned (.tuple #[.string ⟨(L[i].2.readAt s a n').1.toArray⟩, .int .i64 (L[i].2.readAt s a n').2]) ∧ W = w' :=
  h.read i hi fun _ hv => disk_readAt hv s hs hf.n h1 h2 h3
end
theorem flock_used {w0 W : World} {n : Nat} {L : List (Nat × DS)} (h : Flock w0 W n L) (i : Nat) (hi : i < L.length) : Calls Tryz.prog 19 #[.pointer (some ⟨L[i].1, 0, none⟩)] W fun e w' => e = .returned (.int .i64 (L[i].2.usedD : Nat)) ∧ W = w' :=
  h.read i hi fun _ hv => used_any hv
theorem flock_quota {w0 W : World} {n : Nat} {L : List (Nat × DS)} (h : Flock w0 W n L) (i : Nat) (hi : i < L.length) : Calls Tryz.prog 36 #[.pointer (some ⟨L[i].1, 0, none⟩)] W fun e w' => e = .returned (.int .i64 (L[i].2.room : Nat)) ∧ W = w' :=
  h.read i hi fun _ hv => quota_any hv
theorem flock_steps {w0 W : World} {n : Nat} {L : List (Nat × DS)} (h : Flock w0 W n L) (i : Nat) (hi : i < L.length) : Calls Tryz.prog 37 #[.pointer (some ⟨L[i].1, 0, none⟩)] W fun e w' => e = .returned (.int .i64 (L[i].2.steps : Nat)) ∧ W = w' :=
  h.read i hi fun _ hv => steps_any hv
end Go.Proofs.YtmmoilmfpiclgaaGreat

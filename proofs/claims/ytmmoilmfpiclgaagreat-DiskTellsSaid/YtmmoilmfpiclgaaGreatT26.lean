/-
  Create of a disk in memory. A file that loses its name is kept in a row.
-/
import Derived.Test.YtmmoilmfpiclgaaGreatT25
import Derived.Maps.AppendAt
set_option linter.unusedVariables false
set_option linter.unusedSimpArgs false
namespace Go.Proofs.YtmmoilmfpiclgaaGreat
open Go.RowKit Go.Shelf
open Fld (FS Names FAct actsOn foundN foundB findT withT withoutT GoodN Rising mayB nam nameMax FolderS FolderIn ARow)

theorem DiskIn.refile {w : World} {p u : Nat} {S S' : DS} {v : DV} {fv lv : Value} {lost : List Nat} {armed : Nat} {P : Nat → Option Nat} (h : DiskIn w p S u v fv lv lost armed P) (h1 : S'.fold = S.fold) (h2 : ∀ n b, P n = some b → S'.file n = S.file n) (h3 : S'.room = S.room) (h4 : S'.steps = S.steps) (h5 : S'.down = S.down)
    (h6 : S'.armed = S.armed) : DiskIn w p S' u v fv lv lost armed P := by
  obtain ⟨F, f, r, st, a, d⟩ := S
  obtain ⟨F', f', r', st', a', d'⟩ := S'
  simp only at h1 h2 h3 h4 h5 h6
  subst h1 h3 h4 h5 h6
  refine { h with files := fun n b hn => ?_ }
  have := h.files n b hn
  simp only at this ⊢
  rw [h2 n b hn]
  exact this

/-- The folder's part of a Create, told of the disk. -/
theorem fold_create {w : World} {p : Nat} {S : DS} {v : DV} {fv lv : Value} {lost : List Nat} {armed : Nat} {P : Nat → Option Nat} (h : DiskIn w p S S.used v fv lv lost armed P) (hp : Parts w v.M v.I) (s : ByteArray) (hs : s.size ≤ nameMax) (hl : S.fold.weight ≤ 90000) :
    Calls Tryz.prog 38 #[.pointer (some ⟨p, 0, none⟩), .string s] w fun e w' => e = .returned (.tuple #[.int .i64 ((S.fold.create s).2.1 : Nat), .int .i64 ((S.fold.create s).2.2 : Nat)]) ∧
      ∃ v', DiskIn w' p { S with fold := (S.fold.create s).1 } S.used v' fv lv lost armed P ∧ Parts w' v'.M v'.I ∧ v.To w w' v' := by
  refine (@Fld.create_any (fin _) _ _ _ _ _ _ _ h.fold s hs hl).mono ?_
  rintro e w' ⟨rfl, h2⟩
  obtain ⟨v', k1, k2, k3, _⟩ := h.folded hp h2 (create_A _ _).2
  exact ⟨rfl, v', k1, k2, k3⟩

/-- A file is made for the number that is new. -/
theorem born_file {w w1 : World} {p u n b : Nat} {S : DS} {v : DV} {fv lv : Value} {lost : List Nat} {armed : Nat} {P : Nat → Option Nat} {M : Nat → Prop} {D : List UInt8} (h : DiskIn w p S u v fv lv lost armed P) (hp : Parts w v.M v.I) (hP : P n = none)
    (hf : FileAt w1 b D [] M (fun _ => False)) (hM : ∀ g, M g → w.heap.size ≤ g) (hb : Below w.heap.size w w1) :
    ∃ v', DiskIn w1 p { S with file := upd S.file n ⟨D, []⟩ } u v' fv lv lost armed P ∧ Parts w1 v'.M v'.I ∧ v.To w w1 v' ∧ FileAt w1 b (({ S with file := upd S.file n ⟨D, []⟩ } : DS).file n).D (({ S with file := upd S.file n ⟨D, []⟩ } : DS).file n).A (v'.M (n + 3)) (v'.I (n + 3)) := by
  obtain ⟨v', d1, d2, d3, d4, d5, d6⟩ := h.born hp (n + 3) (by omega) (fun e => by omega) (fun e => by omega) (fun m e => by
    have : m = n := by omega
    subst this; exact hP) hb (M' := M) (I' := fun _ => False) hM (fun g hg => hg.elim) (fun g hg => by
    rcases hg with hg | hg
    · exact hf.mem g (.inl hg)
    · exact hg.elim) (fun g hg => hg.elim)
  refine ⟨v', d1.refile rfl (fun m c hm => upd_other _ _ fun e => ?_) rfl rfl rfl rfl, d2, d3, ?_⟩
  · subst e; rw [hP] at hm; cases hm
  · rw [d4, d5]
    show FileAt w1 b (upd S.file n ⟨D, []⟩ n).D (upd S.file n ⟨D, []⟩ n).A M (fun _ => False)
    rw [upd_same]
    exact hf

/-- A block that is no part's stays. -/
theorem DV.To.block {w w' : World} {v v' : DV} (t : v.To w w' v') {b : Nat} {o : Obj} (hb : w.heap[b]? = some o) (hn : ∀ k, ¬ v.M k b) : w'.heap[b]? = some o :=
  (t.kept.block b (Array.getElem?_eq_some_iff.1 hb).1 (fun ⟨k, hk⟩ => hn k hk)).trans hb
theorem DV.To.none {w w' : World} {v v' : DV} (t : v.To w w' v') {b : Nat} (hb : b < w.heap.size) (hn : ∀ k, ¬ v.M k b) : ∀ k, ¬ v'.M k b := fun k hk => by
  rcases t.m b ⟨k, hk⟩ with ⟨l, hl⟩ | h
  · exact hn l hl
  · omega


/-- The disk behind a Create that answers OK. -/
def DS.born (S : DS) (s : ByteArray) : DS := { S with fold := (S.fold.create s).1, file := upd S.file (S.fold.create s).2.1 ⟨[], []⟩ }

/-- The put behind it. -/
theorem create_put {w W1 W2 : World} {p b : Nat} {S : DS} {v v1 : DV} {fv lv : Value} {lost : List Nat} {armed : Nat} {P : Nat → Option Nat} {M : Nat → Prop} (h : DiskP w p S v) (h1 : DiskIn w p S S.used v fv lv lost armed P) (hkn : KnownIn S.fold lost P) (s : ByteArray) (hl : S.fold.weight ≤ 80000) (hu : S.used ≤ 100000000000000) (e0 : (S.fold.create s).2.2 = 0)
    (a1 : DiskIn W1 p { S with fold := (S.fold.create s).1 } S.used v1 fv lv lost armed P) (a2 : Parts W1 v1.M v1.I) (a3 : v.To w W1 v1) (a4 : FileAt W2 b [] [] M (fun _ => False)) (a5 : ∀ g, M g → W1.heap.size ≤ g) (a6 : Below W1.heap.size W1 W2) :
    Calls Tryz.prog 39 #[.pointer (some ⟨p, 0, none⟩), .int .i64 (((S.fold.create s).2.1 : Nat) : Int), .pointer (some ⟨b, 0, none⟩)] W2 fun e w' => e = .returned (.tuple #[]) ∧ WentK w p v (S.born s) w' := by
  have hrow := fun b hb => h.rowLt (b := b) hb
  have hgood := Fld.good_create h.good s
  have hroom := h.room
  have hnn : (S.fold.create s).1.n ≤ 100000 := by
    have h3 : _ ≤ S.fold.weight + 2 := Fld.weight_create S.fold s
    have h4 : (S.fold.create s).1.n ≤ (S.fold.create s).1.weight := Nat.le_add_left _ _
    omega
  obtain ⟨en, en2⟩ := create_n e0
  have hP : P (S.fold.create s).2.1 = none := by
    cases hx : P (S.fold.create s).2.1 with
    | none => rfl
    | some c => have := (h1.files _ c hx).2.2; omega
  have hus : (S.born s).used = S.used := create0_used h.good s e0
  obtain ⟨x, hx⟩ : ∃ x, (S.fold.create s).2.1 = x := ⟨_, rfl⟩
  have hkn' : KnownIn (S.fold.create s).1 lost (pset P x b) := ⟨(known_create hkn.1 s).mono fun n hn => by
      by_cases e : n = x
      · subst e; exact ⟨b, pset_same _ _ _⟩
      · rcases hn with ⟨c, hc⟩ | ⟨_, e'⟩
        · exact ⟨c, (pset_other _ _ e).trans hc⟩
        · exact absurd (e'.trans hx) e, fun x hx => ⟨Nat.le_trans (hkn.2.1 x hx).1 (create_A _ _).2, gone_create s (hkn.2.1 x hx).1 (hkn.2.1 x hx).2⟩, Nat.le_trans hkn.2.2 (create_A _ _).1⟩
  have hb : S.born s = { S with fold := (S.fold.create s).1, file := upd S.file x ⟨[], []⟩ } := by unfold DS.born; rw [hx]
  rw [hb] at hus ⊢
  rw [hx] at hP en ⊢
  obtain ⟨v2, b1, b2, b3, b4⟩ := born_file a1 a2 hP a4 a5 a6
  have z : (upd S.file x ⟨[], []⟩ x).R.length = 0 := by rw [upd_same]; rfl
  refine (put_any b1 b2 hP hnn (by omega) (by show x ≤ (S.fold.create s).1.n; omega) b4 (by show S.used + (upd S.file x ⟨[], []⟩ x).R.length ≤ _; rw [z]; omega)).mono ?_
  rintro e w' ⟨rfl, m, v', c1, c2, c3⟩
  simp only [z, Nat.add_zero] at c1
  exact ⟨rfl, v', ⟨⟨_, _, _, _, _, hus.symm ▸ c1, hkn'⟩, hgood, c2, hroom⟩, (a3.trans hrow b3).trans hrow c3⟩

theorem drewB (w : World) : Below w.heap.size w w.drew := ⟨rfl, rfl, rfl, Nat.le_refl _, fun _ _ => rfl⟩

set_option maxHeartbeats 2000000 in
set_option maxRecDepth 100000 in
theorem create1_any {w : World} {p bd bn : Nat} {S : DS} {v : DV} (h : DiskP w p S v) (s : ByteArray) (hs : s.size ≤ nameMax) (hl : S.fold.weight ≤ 80000) (hu : S.used ≤ 100000000000000)
    (hbd : w.heap[bd]? = some (.cells #[.pointer (some ⟨p, 0, none⟩)] 27 (0, 0))) (hbn : w.heap[bn]? = some (.cells #[.string s] 9 (0, 0))) (nd : ∀ k, ¬ v.M k bd) :
    Calls Tryz.prog 49 #[.pointer (some ⟨bd, 0, none⟩), .pointer (some ⟨bn, 0, none⟩)] w fun e w' => e = .returned (.int .i64 (((S.create0 s).2 : Nat) : Int)) ∧ WentK w p v (S.create0 s).1 w' := by
  obtain ⟨fv, lv, lost, armed, P, h1, hkn⟩ := h.it
  have kd : w.cell? ⟨bd, 0, none⟩ = some (.pointer (some ⟨p, 0, none⟩)) := by rw [cell_of_row w bd 0 _ _ _ hbd]; rfl
  have kn : w.cell? ⟨bn, 0, none⟩ = some (.string s) := by rw [cell_of_row w bn 0 _ _ _ hbn]; rfl
  have q : ∀ W, Below w.heap.size w W → _ := fun W hb => fold_create (h1.below h.parts hb).1 (h1.below h.parts hb).2.1 s hs (by omega)
  have tq : ∀ W w1 v1, Below w.heap.size w W → v.To W w1 v1 → v.To w w1 v1 := fun W w1 v1 hb t => (h1.below h.parts hb).2.2.trans (fun b hb => h.rowLt hb) t
  have hrow := fun b hb => h.rowLt (b := b) hb
  have hdl := (Array.getElem?_eq_some_iff.1 hbd).1
  by_cases e0 : (S.fold.create s).2.2 = 0
  · have hc0 : S.create0 s = (S.born s, 0) := create0_ok e0
    rw [hc0]
    have HP := Lib.hid (fun W1 W2 b v1 M => @create_put w W1 W2 p b S v v1 fv lv lost armed P M h h1 hkn s hl hu e0)
    rw [e0] at q
    obtain ⟨x, hx⟩ : ∃ x, (S.fold.create s).2.1 = x := ⟨_, rfl⟩
    rw [hx] at q HP
    have Q := Lib.hid q
    have TQ := Lib.hid tq
    clear q tq
    have HB := Lib.hid (fun W v1 W2 (t : v.To w W v1) (b : Below W.heap.size W W2) => (show W2.cell? ⟨bd, 0, none⟩ = some (.pointer (some ⟨p, 0, none⟩)) by
      have h0 := t.block hbd nd
      rw [cell_of_row W2 bd 0 _ _ _ ((b.block bd (Array.getElem?_eq_some_iff.1 h0).1).trans h0)]; rfl))
    have hnew := fun W => new_any ⟨#[]⟩ W (by decide)
    clear hkn h1 h hbd hbn nd e0 hs hl hu hrow hc0 hx
    go_enter Tryz.func49, Tryz.ntmps49
    go_upto_region 1 with fail
    go_region_with (go_at_call 38; (with_reducible refine (Q.out _ (drewB w)).mono ?_); rintro e w1 ⟨rfl, v1, k1, k2, k3⟩; have k3 := TQ.out _ _ _ (drewB w) k3; have kd1 := HB.out _ _ _ k3 (Below.refl _ _))
    all_goals
      go_upto_region 3 with fail
      go_region_with (first
        | (go_at_call 40; (with_reducible refine (hnew _).mono ?_); rintro e w2 ⟨b, M, rfl, f1, f2, f3⟩; have f2 : ∀ g, M g → w1.heap.size ≤ g := f2; have f3 : Below w1.heap.size w1 w2 := (drewB w1).trans f3; have kd2 := HB.out _ _ _ k3 f3)
        | (go_at_call 39; (with_reducible refine (HP.out _ _ _ _ _ k1 k2 k3 f1 f2 f3).mono ?_); rintro e w3 ⟨rfl, hW⟩))
      all_goals
        go_wp2
        go_ret
        exact ⟨rfl, hW⟩
  · rw [create0_bad e0]
    have ef : (S.fold.create s).1 = S.fold := by
      rcases create_ways S.fold s with e | e | ⟨_, _, e, _⟩
      · rw [e]
      · rw [e]
      · rw [e] at e0; exact absurd rfl e0
    rw [ef] at q
    obtain ⟨er, her⟩ : ∃ er, (S.fold.create s).2.2 = er := ⟨_, rfl⟩
    obtain ⟨x, hx⟩ : ∃ x, (S.fold.create s).2.1 = x := ⟨_, rfl⟩
    rw [hx, her] at q
    rw [her] at e0 ⊢
    have hz : ((er : Int) == 0) = false := by simpa using e0
    have HW := Lib.hid (fun W1 v1 (a1 : DiskIn W1 p { S with fold := S.fold } S.used v1 fv lv lost armed P) (a2 : Parts W1 v1.M v1.I) (a3 : v.To w W1 v1) => (show WentK w p v S W1 from ⟨v1, ⟨⟨_, _, _, _, _, a1, hkn⟩, h.good, a2, h.room⟩, a3⟩))
    have Q := Lib.hid q
    have TQ := Lib.hid tq
    clear q tq hkn h1 h hbd hbn nd e0 hs hl hu hrow hx her ef
    go_enter Tryz.func49, Tryz.ntmps49
    go_upto_region 1 with fail
    go_region_with (go_at_call 38; (with_reducible refine (Q.out _ (drewB w)).mono ?_); rintro e w1 ⟨rfl, v1, k1, k2, k3⟩; have k3 := TQ.out _ _ _ (drewB w) k3)
    all_goals
      go_wp2
      go_ret
      exact ⟨rfl, HW.out _ _ k1 k2 k3⟩

set_option maxHeartbeats 2000000 in
set_option maxRecDepth 100000 in
theorem create_any {w : World} {p : Nat} {S : DS} {v : DV} (h : DiskP w p S v) (s : ByteArray) (hs : s.size ≤ nameMax) (hl : S.fold.weight ≤ 80000) (hu : S.used ≤ 100000000000000) (hst : S.steps ≤ 90000) :
    Calls Tryz.prog 12 #[.pointer (some ⟨p, 0, none⟩), .string s] w fun e w' => e = .returned (.int .i64 (((S.create s).2 : Nat) : Int)) ∧ WentK w p v (S.create s).1 w' := by
  have b1 := below_duo w (.cells #[.pointer (some ⟨p, 0, none⟩)] 27) (.cells #[.string s] 9)
  obtain ⟨o1, o2⟩ := heap_two w (.cells #[.pointer (some ⟨p, 0, none⟩)] 27) (.cells #[.string s] 9)
  have nn := h.fresh (Nat.le_refl _)
  obtain ⟨w1, hw1⟩ : ∃ w1, (w.alloc (.cells #[.pointer (some ⟨p, 0, none⟩)] 27)).alloc (.cells #[.string s] 9) = w1 := ⟨_, rfl⟩
  rw [hw1] at b1 o1 o2
  have k1 : w1.cell? ⟨w.heap.size, 0, none⟩ = some (.pointer (some ⟨p, 0, none⟩)) := by rw [cell_of_row w1 _ 0 _ _ _ o1]; rfl
  have GO := Lib.hid (method_go (F := 49) (caps := #[.pointer (some ⟨w.heap.size, 0, none⟩), .pointer (some ⟨w.heap.size + 1, 0, none⟩)]) h b1 (by omega) (by intro args w; kernel_rfl) (fun S => S.create0 s) fun W hW bx => create1_any hW s hs hl hu (bx _ _ _ o1 (by decide)) (bx _ _ _ o2 (by decide)) nn)
  clear h nn hs hl hu hst b1 o1 o2
  go_enter Tryz.func12, Tryz.ntmps12
  go_wp2_with (first
    | (go_at_call 48; (with_reducible refine (asked_any _ _ _ _).mono ?_); rintro e w2 ⟨bd, bo, rfl, e1, e2, b2⟩)
    | ((with_reducible refine (GO.out _ _ _ b2 e1 e2).mono ?_); rintro e w3 ⟨rfl, hW⟩))
  go_ret
  exact ⟨rfl, hW⟩
end Go.Proofs.YtmmoilmfpiclgaaGreat
namespace Go.Proofs.YtmmoilmfpiclgaaGreat
open Go.RowKit Go.Shelf
open Fld (FS Names FAct actsOn foundN foundB findT withT withoutT GoodN Rising mayB nam nameMax FolderS FolderIn ARow)

theorem i3n : (Tryz.prog.info? 3).map (fun i => (i.zero, i.size, i.bytes)) = some (some (.int .i64 0), 1, 8) := by kernel_rfl

theorem ownsSlice {w : World} {base size n : Nat} {e : TypeId} {v : Value} {xs : List Value} (h : w.ownsRow base e size v n xs) : ∃ ad c, v = .slice ad n c := by
  rcases h.2 with ⟨rfl, h0⟩ | ⟨g, cap, cur, rfl, _⟩
  · exact ⟨none, 0, by rw [h0]⟩
  · exact ⟨_, _, rfl⟩

set_option maxHeartbeats 2000000 in
set_option maxRecDepth 100000 in
theorem lose_walk {w : World} {p b l u n m : Nat} {cs : Array Value} {lv : Value} {lost : List Nat} {P : Nat → Option Nat} (hf : ∀ W, w.grownBy W (some p) → Calls Tryz.prog 91 #[.pointer (some ⟨b, 0, none⟩)] W fun e w' => e = .returned (.int .i64 (l : Nat)) ∧ W = w') (hu : l ≤ u) (hu2 : u ≤ 1000000000000000)
    (hp : w.heap[p]? = some (.cells cs 77 (0, 0))) (c7 : cs[7]? = some (.int .i64 (u : Int))) (c4 : cs[4]? = some (.map (some m))) (c5 : cs[5]? = some lv) (h : HasP w m P) (hP : P n = some b) (hn : n ≤ 1000000)
    (hrow : w.ownsRow 0 3 1 lv lost.length (lost.map fun x : Nat => Value.int .i64 (x : Int))) (hnp : ∀ g, lv.ownBlock = some g → g ≠ p) (hll : lost.length ≤ 1000000) :
    Calls Tryz.prog 85 #[.pointer (some ⟨p, 0, none⟩), .int .i64 (n : Int)] w fun e w' => e = .returned (.tuple #[]) ∧ ∃ w2 w3 lv', w2 = w.setCell ⟨p, 7, none⟩ (.int .i64 ((u : Int) - (l : Int))) ∧ w2.grownBy w3 lv.ownBlock ∧ w3.ownsRow 0 3 1 lv' (lost.length + 1) ((lost ++ [n]).map fun x : Nat => Value.int .i64 (x : Int)) ∧
      (lv'.ownBlock = lv.ownBlock ∨ ∃ g, lv'.ownBlock = some g ∧ w.heap.size ≤ g) ∧ w' = w3.setCell ⟨p, 5, none⟩ lv' := by
  obtain ⟨i0, hi, hz1, hz2, hz3⟩ := info_parts i3n
  obtain ⟨ad, c, hlv⟩ := ownsSlice hrow
  have k4 : w.cell? ⟨p, 4, none⟩ = some (.map (some m)) := by rw [cell_of_row w p 4 _ _ _ hp]; exact c4
  have k5 : w.cell? ⟨p, 5, none⟩ = some lv := by rw [cell_of_row w p 5 _ _ _ hp]; exact c5
  have k7 : w.cell? ⟨p, 7, none⟩ = some (.int .i64 (u : Int)) := by rw [cell_of_row w p 7 _ _ _ hp]; exact c7
  have f7 := free_of hp 7
  have hpl := (Array.getElem?_eq_some_iff.1 hp).1
  have hlook : ∀ k, (Instr.lookup 74 (.map (some m)) (.int .i64 (n : Int)) false).run Tryz.prog (w.drewN k) = .ok (.pointer (some ⟨b, 0, none⟩)) (w.drewN k) := fun k => (h.same (w' := w.drewN k) rfl).look (by omega) hP
  have hl0 : (Instr.lookup 74 (.map (some m)) (.int .i64 (n : Int)) false).run Tryz.prog w.drew = .ok (.pointer (some ⟨b, 0, none⟩)) w.drew := (h.same (w' := w.drew) rfl).look (by omega) hP
  have hsub : IntKind.i64.wrap ((u : Int) - (l : Int)) = (u : Int) - (l : Int) := IntWalk.i64_in _ (by omega)
  have k5' : (w.setCell ⟨p, 7, none⟩ (.int .i64 ((u : Int) - (l : Int)))).cell? ⟨p, 5, none⟩ = some lv := by
    have h0 := cells_setCell hp 7 (.int .i64 ((u : Int) - (l : Int)))
    rw [cell_of_row _ p 5 _ _ _ h0, Array.getElem?_setIfInBounds_ne (by omega)]
    exact c5
  have hrow2 : (w.setCell ⟨p, 7, none⟩ (.int .i64 ((u : Int) - (l : Int)))).ownsRow 0 3 1 lv lost.length (lost.map fun x : Nat => Value.int .i64 (x : Int)) := owns_same hrow fun g hg => (Fld.heap_setCell_ne (w := w) (hnp g hg) : _)
  have hz : (w.setCell ⟨p, 7, none⟩ (.int .i64 ((u : Int) - (l : Int)))).heap.size = w.heap.size := by simp
  have HF := Lib.hid hf
  obtain ⟨w2, hw2⟩ : ∃ w2, w.setCell ⟨p, 7, none⟩ (.int .i64 ((u : Int) - (l : Int))) = w2 := ⟨_, rfl⟩
  rw [hw2] at k5' hrow2 hz
  have HR := Lib.hid (owns_same (w' := (w2.alloc (.cells #[.int .i64 (n : Int)] 3)).drew) (hrow2.alloc (.cells #[.int .i64 (n : Int)] 3)) fun _ _ => rfl)
  have hcn := cell_one_new w2 (.int .i64 (n : Int)) 3
  rw [hz] at hcn
  have HCN := Lib.hid hcn
  have gn : w2.grownBy (w2.alloc (.cells #[.int .i64 (n : Int)] 3)).drew lv.ownBlock := grown_drew (World.grownBy_alloc w2 _ _)
  have GN := Lib.hid gn
  have hbz : 0 ≤ (w2.alloc (.cells #[.int .i64 (n : Int)] 3)).drew.heap.size := Nat.zero_le _
  have hge : w.heap.size ≤ (w2.alloc (.cells #[.int .i64 (n : Int)] 3)).drew.heap.size := by rw [← hz]; exact (Below.refl _ w2 |>.alloc (Nat.le_refl _) (.cells #[.int .i64 (n : Int)] 3)).size
  clear hcn gn
  have hp2 : ∀ W, w2.grownBy W lv.ownBlock → W.cell? ⟨p, 5, none⟩ = some lv ∧ W.frozen? ⟨p, 5, none⟩ = false ∧ p < W.heap.size := fun W g => by
    have h9 : w2.heap[p]? = some (.cells (cs.setIfInBounds 7 (.int .i64 ((u : Int) - (l : Int)))) 77 (0, 0)) := by rw [← hw2]; exact cells_setCell hp 7 _
    have h0 := (g.block p (Array.getElem?_eq_some_iff.1 h9).1 (fun e => hnp p e.symm rfl)).trans h9
    exact ⟨by rw [cell_of_row _ p 5 _ _ _ h0, Array.getElem?_setIfInBounds_ne (by omega)]; exact c5, free_of h0 5, (Array.getElem?_eq_some_iff.1 h0).1⟩
  have HP2 := Lib.hid hp2
  clear hf h hlook hp c7 c4 c5 hP hrow hp2 hnp hrow2
  subst hlv
  go_enter Tryz.func85, Tryz.ntmps85
  go_upto_region 0 with fail
  go_region_with ((go_at_call 91; (with_reducible refine Calls.mono (HF.out w.drew (grown_drew ⟨rfl, rfl, rfl, Nat.le_refl _, fun _ _ _ => rfl⟩)) ?_); rintro e w' ⟨rfl, rfl⟩))
  all_goals
    go_wp2_with (at_builtin; refine wpList_append_own_at _ rfl _ _ 75 rfl 0 3 i0 (.int .i64 0) 1 8 Tryz.underlying75 hi hz1 hz2 hz3 rfl (by decide) _ _ _ rfl HR.out ⟨w.heap.size, 0, none⟩ 1 1 [.int .i64 (n : Int)] rfl rfl HCN.out (by simp [Value.oneCell']) (by unfold maxLen; omega) (by omega) hbz ?_; intro v' w3 o1 g1 _ go; obtain ⟨ad', c', rfl⟩ := ownsSlice o1; have G1 := Lib.hid (Fld.grownBy_trans GN.out g1); obtain ⟨k5', f5, l5⟩ := HP2.out w3 G1.out; have O1 := Lib.hid o1; have GO := Lib.hid go; clear o1 g1 go)
    refine bodyPost_end (v := .tuple #[]) (by simp [results, Tryz.results85, go_sem]) rfl ⟨rfl, w2, w3, _, hw2.symm, G1.out, ?_, GO.out.imp id (fun e => ⟨_, e, hge⟩), rfl⟩
    rw [List.map_append]
    exact O1.out

/-- The row of lost ones turns. -/
theorem DiskIn.newRow {w w3 : World} {p u : Nat} {S : DS} {v : DV} {fv lv lv' : Value} {lost lost' : List Nat} {armed : Nat} {P : Nat → Option Nat} (h : DiskIn w p S u v fv lv lost armed P) (hp : Parts w v.M v.I) (hg : w.grownBy w3 lv.ownBlock)
    (hrow : w3.ownsRow 0 3 1 lv' lost'.length (lost'.map fun x : Nat => Value.int .i64 (x : Int))) (ho : lv'.ownBlock = lv.ownBlock ∨ ∃ g, lv'.ownBlock = some g ∧ w.heap.size ≤ g) :
    ∃ v', DiskIn (w3.setCell ⟨p, 5, none⟩ lv') p S u v' fv lv' lost' armed P ∧ Parts (w3.setCell ⟨p, 5, none⟩ lv') v'.M v'.I ∧ v.To w (w3.setCell ⟨p, 5, none⟩ lv') v' := by
  have hk : Kept (v.M 2) w w3 := Kept.grown hg (fun g hg => h.rowM g hg)
  have same3 : ∀ k g, k ≠ 2 → v.M k g ∨ v.I k g → w3.heap[g]? = w.heap[g]? := fun k g hk' hg => hp.kept hk hk' g hg
  have new : ∀ g, lv'.ownBlock = some g → v.M 2 g ∨ w.heap.size ≤ g := fun g hg' => by
    rcases ho with e | ⟨g', e, hge⟩
    · exact .inl (h.rowM g (e ▸ hg'))
    · rw [e] at hg'; cases hg'; exact .inr hge
  have pin : Parts w3 (pput v.M 2 fun g => v.M 2 g ∨ lv'.ownBlock = some g) (pput v.I 2 (v.I 2)) := hp.step 2 hg.size (fun g hg' => hg'.elim .inl (new g)) (fun g hg' => .inl hg') (fun g hg' => by
    rcases hg' with (hg' | hg') | hg'
    · exact Nat.lt_of_lt_of_le (hp.mem 2 g (.inl hg')) hg.size
    · exact (hrow.lt g hg').2
    · exact Nat.lt_of_lt_of_le (hp.mem 2 g (.inr hg')) hg.size) (fun g h1 h2 => by
    rcases h2 with h2 | h2
    · exact hp.read 2 2 g h1 h2
    · rcases new g h2 with h3 | h3
      · exact hp.read 2 2 g h1 h3
      · have := hp.mem 2 g (.inr h1); omega)
  have o1 : ∀ k, k ≠ 2 → pput v.M 2 (fun g => v.M 2 g ∨ lv'.ownBlock = some g) k = v.M k := fun k hk' => pput_other _ _ hk'
  have o2 : ∀ k, pput v.I 2 (v.I 2) k = v.I k := fun k => by
    by_cases e : k = 2
    · subst e; exact pput_same _ _ _
    · exact pput_other _ _ e
  have f3 := @FolderIn.same (fin _) _ _ _ _ _ _ _ _ _ _ h.fold (fun g hg => same3 0 g (by omega) hg) hg.size
  obtain ⟨t1, t2, t3⟩ := tail_set f3 1 lv'
  have hne : ∀ k g, k ≠ 0 → v.M k g ∨ v.I k g → g ≠ p := fun k g hk hg e => by
    subst e
    rcases hg with hg | hg
    · exact hp.apart k 0 g hk hg h.p_mem.1
    · exact hp.read k 0 g hg h.p_mem.1
  have hs : (w3.setCell ⟨p, 1 + 4, none⟩ lv').heap.size = w3.heap.size := by simp
  have same : ∀ k g, k ≠ 2 → k ≠ 0 → v.M k g ∨ v.I k g → (w3.setCell ⟨p, 5, none⟩ lv').heap[g]? = w.heap[g]? := fun k g h2 h0 hg => (Fld.heap_setCell_ne (hne k g h0 hg)).trans (same3 k g h2 hg)
  have np : ∀ g, lv'.ownBlock = some g → g ≠ p := fun g hg' e => by
    rcases new g hg' with h3 | h3
    · exact hne 2 g (by omega) (.inl h3) e
    · have := h.p_mem.2; omega
  refine ⟨⟨v.av, v.fs, pput v.M 2 (fun g => v.M 2 g ∨ lv'.ownBlock = some g), pput v.I 2 (v.I 2)⟩, ⟨?_, h.arm, h.armLe, h.map.same fun b hb => same 1 b (by omega) (by omega) (.inl (h.mapM b hb)), ?_, owns_same hrow fun g hg' => Fld.heap_setCell_ne (np g hg'), ?_, fun n b hn => ?_⟩, pin.grow (Nat.le_of_eq hs.symm), ?_⟩
  · simp only [o1 0 (by omega), o2]
    exact t1
  · simp only [o1 1 (by omega)]
    exact h.mapM
  · intro g hg'
    simp only [pput_same]
    exact .inr hg'
  · simp only [o1 (n + 3) (by omega), o2]
    obtain ⟨q1, q2⟩ := h.files n b hn
    exact ⟨q1.same (fun g hg' => same (n + 3) g (by omega) (by omega) hg') (by show w.heap.size ≤ (w3.setCell ⟨p, 1 + 4, none⟩ lv').heap.size; rw [hs]; exact hg.size), q2⟩
  · refine h.to_same rfl rfl (all_pput fun g hg' => hg'.elim .inl (new g)) (fun g hg' => ?_) (hk.all.trans t2.all fun g hg' => .inl hg') (fun g hg' => (Fld.heap_setCell_ne (t3 g hg')).trans (same3 0 g (by omega) (h.rowIn g hg')))
    obtain ⟨k, hk'⟩ := hg'
    simp only [o2] at hk'
    exact .inl ⟨k, hk'⟩

/-- A file loses its name. -/
theorem lose_any {w : World} {p u n b : Nat} {S : DS} {v : DV} {fv lv : Value} {lost : List Nat} {armed : Nat} {P : Nat → Option Nat} (h : DiskIn w p S u v fv lv lost armed P) (hp : Parts w v.M v.I) (hP : P n = some b) (hN : S.fold.n ≤ 100000) (hl : (S.file n).R.length ≤ u) (hu : u ≤ 1000000000000000) (hll : lost.length ≤ 1000000) :
    Calls Tryz.prog 85 #[.pointer (some ⟨p, 0, none⟩), .int .i64 (n : Int)] w fun e w' => e = .returned (.tuple #[]) ∧ ∃ lv' v', DiskIn w' p S (u - (S.file n).R.length) v' fv lv' (lost ++ [n]) armed P ∧ Parts w' v'.M v'.I ∧ v.To w w' v' := by
  obtain ⟨cs, q0, q4, q5, q7⟩ := h.heap
  have hf := (h.files n b hP).1
  rcases h.map with ⟨rfl, rfl⟩ | ⟨m, rfl, hm⟩
  · cases hP
  · have hfp : ∀ g, v.M (n + 3) g ∨ v.I (n + 3) g → g ≠ p := fun g hg e => by
      subst e
      rcases hg with hg | hg
      · exact hp.apart (n + 3) 0 g (by omega) hg h.p_mem.1
      · exact hp.read (n + 3) 0 g hg h.p_mem.1
    have hnp : ∀ g, lv.ownBlock = some g → g ≠ p := fun g hg e => by
      subst e
      exact hp.apart 2 0 g (by omega) (h.rowM g hg) h.p_mem.1
    refine (lose_walk (l := (S.file n).R.length) (fun W g => len_any (hf.same (fun k hk => g.block k (hf.mem k hk) (fun e => hfp k hk (Option.some.inj e))) g.size)) hl hu q0 q7 q4 q5 hm hP (by have := (h.files n b hP).2.2; omega) h.row hnp hll).mono ?_
    rintro e w' ⟨rfl, w2, w3, lv', rfl, g3, r3, o3, rfl⟩
    obtain ⟨c1, c2, c3⟩ := h.number (S' := S) hp 3 (.int .i64 ((u : Int) - ((S.file n).R.length : Int))) (armed' := armed) (u' := u - (S.file n).R.length) (by
      rw [← Int.ofNat_sub hl]; rfl) rfl rfl h.arm h.armLe
    have hrow3 : w3.ownsRow 0 3 1 lv' (lost ++ [n]).length ((lost ++ [n]).map fun x : Nat => Value.int .i64 (x : Int)) := by rw [List.length_append]; exact r3
    obtain ⟨v', d1, d2, d3⟩ := c1.newRow c2 g3 hrow3 (o3.imp id fun ⟨g, e, hg⟩ => ⟨g, e, by simpa using hg⟩)
    exact ⟨rfl, lv', v', d1, d2, c3.trans h.rowLt d3⟩
end Go.Proofs.YtmmoilmfpiclgaaGreat

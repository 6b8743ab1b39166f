/-
  SyncDir of a disk in memory. A step of a disk in memory that changes a file, or syncs it. Append of a disk in memory. What a disk in memory answers to ReadAt, Size, List; Arm; a new one. The iterator over a disk's names, in memory; a new disk. What a restart needs: the numbers that are read, a file put beside others, the disk where other blocks turn. A restart in plain words, name by name; and how a disk in memory stands in the midst of it. Files of a disk in memory: the row of what is there.
-/
import Derived.Test.YtmmoilmfpiclgaaGreatT27
import Derived.Test.YtmmoilmfpiclgaaGreatT07
import Derived.Test.YtmmoilmfpiclgaaGreatT03
import Derived.RangeFuncNested
import Derived.RangeFuncBound
import Derived.RangeFuncLeaves
import Derived.Shelf.Abstract
import Derived.Shelf.RegionOpen
import Derived.TacticsInMore
import Derived.LoopNIn
import Derived.LoopIn
import Derived.Test.YtmmoilmfpiclgaaGreatT24
import Derived.Maps.OwnIn
set_option linter.unusedVariables false
set_option linter.unusedSimpArgs false
namespace Go.Proofs.YtmmoilmfpiclgaaGreat
open Go.RowKit Go.Shelf
open Fld (FS Names FAct actsOn foundN foundB findT withT withoutT GoodN Rising mayB nam nameMax FolderS FolderIn ARow)

theorem fold_sync {w : World} {p u : Nat} {S : DS} {v : DV} {fv lv : Value} {lost : List Nat} {armed : Nat} {P : Nat → Option Nat} (h : DiskIn w p S u v fv lv lost armed P) (hp : Parts w v.M v.I) (hl : S.fold.weight ≤ 90000) :
    Calls Tryz.prog 41 #[.pointer (some ⟨p, 0, none⟩)] w fun e w' => e = .returned (.tuple #[]) ∧
      ∃ v', DiskIn w' p { S with fold := S.fold.sync } u v' fv lv lost armed P ∧ Parts w' v'.M v'.I ∧ v.To w w' v' := by
  refine (@Fld.sync_any (fin _) _ _ _ _ _ _ _ h.fold hl).mono ?_
  rintro e w' ⟨rfl, h2⟩
  obtain ⟨v', k1, k2, k3, _⟩ := h.folded hp h2 (Nat.le_refl _)
  exact ⟨rfl, v', k1, k2, k3⟩

/-- Without these numbers. -/
def pdels (P : Nat → Option Nat) (l : List Nat) : Nat → Option Nat := fun y => if y ∈ l then none else P y
theorem pdels_nil (P : Nat → Option Nat) : pdels P [] = P := funext fun y => if_neg (by simp)
theorem pdels_snoc (P : Nat → Option Nat) (l : List Nat) (x : Nat) : pdel (pdels P l) x = pdels P (l ++ [x]) := funext fun y => by
  unfold pdel pdels
  by_cases e : y = x
  · subst e; simp
  · simp [e]
theorem pdels_some {P : Nat → Option Nat} {l : List Nat} {y b : Nat} (h : pdels P l y = some b) : P y = some b := by
  unfold pdels at h
  split at h
  · cases h
  · exact h
theorem pdels_other {P : Nat → Option Nat} {l : List Nat} {y : Nat} (h : y ∉ l) : pdels P l y = P y := if_neg h

theorem takeGetD (l : List Nat) (k : Nat) (h : k < l.length) : l.take (k + 1) = l.take k ++ [l.getD k 0] := by
  rw [List.take_succ_eq_append_getElem h]
  simp [List.getD, h]

/-- An element of a row of numbers. -/
theorem row_num {w : World} {lv : Value} {lost : List Nat} (h : w.ownsRow 0 3 1 lv lost.length (lost.map fun x : Nat => Value.int .i64 (x : Int))) {ad : Option Addr} {c : Nat} (hlv : lv = .slice ad lost.length c) : ∀ k, k < lost.length → ∃ b o, ad = some ⟨b, o, none⟩ ∧ lv.ownBlock = some b ∧ w.cell? ⟨b, o + k, none⟩ = some (.int .i64 ((lost.getD k 0 : Nat) : Int)) := fun k hk => by
  rcases h.2 with ⟨rfl, h0⟩ | ⟨g, cap, cur, rfl, hbg, hg, h4, h5, h6, ht⟩
  · omega
  · cases hlv
    refine ⟨g, 0, rfl, rfl, ?_⟩
    rw [Nat.zero_add, cell_of_row w g k cur 3 (0, 0) hg, ← Array.getElem?_toList]
    have hx : (lost.map fun x : Nat => Value.int .i64 (x : Int))[k]? = some (.int .i64 ((lost.getD k 0 : Nat) : Int)) := by simp [hk]
    rw [← ht, List.getElem?_take] at hx
    split at hx
    · exact hx
    · cases hx

/-- One number is struck. -/
theorem DiskIn.struck {w w' : World} {p u m x : Nat} {S : DS} {v : DV} {lv : Value} {lost : List Nat} {armed : Nat} {P : Nat → Option Nat} {l : List Nat} (h : DiskIn w p S u v (.map (some m)) lv lost armed (pdels P l)) (hp : Parts w v.M v.I) (hg : w.grownBy w' (some m)) (h3 : HasP w' m (pdel (pdels P l) x)) :
    DiskIn w' p S u v (.map (some m)) lv lost armed (pdels P (l ++ [x])) ∧ Parts w' v.M v.I ∧ v.To w w' v := by
  rw [← pdels_snoc]
  refine h.mapped hp hg h3 fun n b hn => h.files n b ?_
  unfold pdel at hn
  split at hn
  · cases hn
  · exact hn

/-- All lost ones are struck, and none is lost any more. -/
theorem synced_end {w W : World} {p : Nat} {S : DS} {v v1 : DV} {fv lv : Value} {lost : List Nat} {armed : Nat} {P : Nat → Option Nat} (h : DiskP w p S v) (hkn : KnownIn S.fold lost P)
    (a1 : DiskIn W p { S with fold := S.fold.sync } S.used v1 fv lv lost armed (pdels P lost)) (a2 : Parts W v1.M v1.I) (a3 : v.To w W v1) : WentK w p v { S with fold := S.fold.sync } (W.setCell ⟨p, 5, none⟩ (.slice none 0 0)) := by
  obtain ⟨c1, c2, c3⟩ := a1.cell (S' := { S with fold := S.fold.sync }) a2 1 (.slice none 0 0) (fv' := fv) (lv' := .slice none 0 0) (lost' := []) (P' := pdels P lost) (armed' := armed) (u' := S.used) rfl rfl rfl a1.arm a1.armLe a1.map a1.mapM (World.ownsRow_nil _ _ _ _) (fun g hg => by cases hg) a1.files
  refine ⟨v1, ⟨⟨fv, _, [], armed, pdels P lost, c1, known_flat (fun q hq => ?_), (fun x hx => by cases hx), Nat.zero_le _⟩, Fld.good_sync h.good, c2, h.room⟩, a3.trans (fun b hb => h.rowLt hb) c3⟩
  obtain ⟨b, hb⟩ := hkn.1.there q hq
  exact ⟨b, (pdels_other fun hm => (hkn.2.1 _ hm).2 q hq rfl).trans hb⟩

set_option maxHeartbeats 4000000 in
set_option maxRecDepth 100000 in
theorem sync1_some {w : World} {p bd m : Nat} {S : DS} {v : DV} {lv : Value} {lost : List Nat} {armed : Nat} {P : Nat → Option Nat} (h : DiskP w p S v) (h1 : DiskIn w p S S.used v (.map (some m)) lv lost armed P) (hkn : KnownIn S.fold lost P) (hl : S.fold.weight ≤ 80000)
    (hbd : w.heap[bd]? = some (.cells #[.pointer (some ⟨p, 0, none⟩)] 27 (0, 0))) (nd : ∀ k, ¬ v.M k bd) :
    Calls Tryz.prog 81 #[.pointer (some ⟨bd, 0, none⟩)] w fun e w' => e = .returned (.int .i64 0) ∧ WentK w p v { S with fold := S.fold.sync } w' := by
  have kd : w.cell? ⟨bd, 0, none⟩ = some (.pointer (some ⟨p, 0, none⟩)) := by rw [cell_of_row w bd 0 _ _ _ hbd]; rfl
  have q := fold_sync h1 h.parts (by omega)
  have hrow := fun b hb => h.rowLt (b := b) hb
  have hll : lost.length ≤ 100000 := by
    have h4 : S.fold.A.length ≤ S.fold.weight := by unfold Fld.FS.weight; omega
    have := hkn.2.2
    omega
  have hxl : ∀ k, k < lost.length → lost.getD k 0 ≤ 100000 := fun k hk => by
    have h4 : S.fold.n ≤ S.fold.weight := Nat.le_add_left _ _
    have hm : lost.getD k 0 ∈ lost := by
      have : lost.getD k 0 = lost[k] := by simp [List.getD, hk]
      rw [this]; exact List.getElem_mem hk
    have := (hkn.2.1 _ hm).1
    omega
  obtain ⟨ad, c, hlv⟩ := ownsSlice h1.row
  have HB := Lib.hid (fun W v1 (t : v.To w W v1) => (show W.cell? ⟨bd, 0, none⟩ = some (.pointer (some ⟨p, 0, none⟩)) by
    rw [cell_of_row W bd 0 _ _ _ (t.block hbd nd)]; rfl))
  have HE := Lib.hid (fun W v1 fv => @synced_end w W p S v v1 fv lv lost armed P h hkn)
  have HX := Lib.hid hxl
  have HROW := Lib.hid hrow
  have HLV := Lib.hid hlv
  clear h h1 hkn hl hbd nd hrow hxl hlv
  go_enter Tryz.func81, Tryz.ntmps81
  go_wp2_with (go_at_call 41; (with_reducible refine q.mono ?_); rintro e w1 ⟨rfl, v1, k1, k2, k3⟩; go_loud (have kd1 := HB.out _ _ k3; have K1 := Lib.hid k1; have K2 := Lib.hid k2; have K3 := Lib.hid k3; obtain ⟨_, k5, _⟩ := k1.cells; have k5' : w1.cell? ⟨p, 5, none⟩ = some (.slice ad lost.length c) := k5.trans (congrArg some HLV.out); clear k1 k2 k3 k5))
  go_loopw [13] (fun s13 wr => ∃ (k : Nat) (v2 : DV), k ≤ lost.length ∧ s13 = .int .i64 k ∧ DiskIn wr p { S with fold := S.fold.sync } S.used v2 (.map (some m)) lv lost armed (pdels P (lost.take k)) ∧ Parts wr v2.M v2.I ∧ v.To w wr v2) (fun s13 _ => lost.length - (intOf s13).toNat)
  case atStart => exact ⟨0, v1, Nat.zero_le _, rfl, by rw [List.take_zero, pdels_nil]; exact K1.out, K2.out, K3.out⟩
  case round =>
    obtain ⟨k, v2, hk, rfl, a1, a2, a3⟩ := hrel
    have kdr := HB.out _ _ a3
    by_cases hlt : k < lost.length
    · have e1 : decide ((k : Int) < (lost.length : Int)) = true := decide_eq_true (by omega)
      have e1' : decide (k < lost.length) = true := decide_eq_true hlt
      obtain ⟨b, o, hbo, _, hc⟩ := row_num a1.row HLV.out k hlt
      obtain ⟨k4, _⟩ := a1.cells
      have hx := HX.out k hlt
      have hsn := takeGetD lost k hlt
      obtain ⟨x, hxx⟩ : ∃ x, lost.getD k 0 = x := ⟨_, rfl⟩
      rw [hxx] at hx hc hsn
      have HSN := Lib.hid hsn
      have A1 := Lib.hid a1
      have A2 := Lib.hid a2
      have A3 := Lib.hid a3
      have hm : HasP wr m (pdels P (lost.take k)) := by
        rcases a1.map with ⟨e, _⟩ | ⟨m', e, hm⟩
        · cases e
        · cases e; exact hm
      have HM := Lib.hid hm
      clear hsn hxx a1 a2 a3 hm
      subst hbo
      go_wp2_with (at_delete; refine wpList_drop_file _ rfl _ _ rfl m (pdels P (lost.take k)) x rfl rfl HM.out (by omega) ?_; intro w3 h3 g3; have H3 := Lib.hid h3; have G3 := Lib.hid g3; clear h3 g3)
      obtain ⟨c1, c2, c3⟩ := A1.out.struck A2.out G3.out H3.out
      exact ⟨⟨k + 1, v2, by omega, by go_num, by rw [HSN.out]; exact c1, c2, A3.out.trans HROW.out c3⟩, by simp [intOf]; omega⟩
    · have e1 : decide ((k : Int) < (lost.length : Int)) = false := decide_eq_false (by omega)
      have e1' : decide (k < lost.length) = false := decide_eq_false hlt
      obtain rfl : k = lost.length := by omega
      rw [List.take_length] at a1
      obtain ⟨_, k5, _, _, _, _, _, fz⟩ := a1.cells
      have f5 := fz 5
      have hpl := a1.p_mem.2
      have HW := Lib.hid (HE.out _ _ _ a1 a2 a3)
      clear a1 a2 a3 fz
      go_wp2_with fail
      go_ret
      exact ⟨rfl, HW.out⟩

theorem wpList_drop_nil (w : World) {ops : Array Oper} {rest : List Oper} {o : Oper} {a : Act} {Q : Exit → Act → World → Prop} (hg : o.guard = none) (m x : Operand) (hop : o.op = Op.call { callee := Callee.builtin Builtin.delete, args := #[m, x], argTypes := #[74, 3] }) (n : Nat) (hn : n ≤ 1000000000)
    (hm : a.eval m = .map none) (hx : a.eval x = .int .i64 (n : Int)) (hK : wpList Tryz.prog ops Q rest (a.put o.dst (.tuple #[])) w) : wpList Tryz.prog ops Q (o :: rest) a w := by
  refine wpList_plain hg fun K' hK' => ?_
  have hrun : (Builtin.delete_ #[74, 3] o.type #[.map none, .int .i64 (n : Int)]).run Tryz.prog w = .ok (.tuple #[]) w := by
    simp [Builtin.delete_, keyI.check w true (key_int n hn), Result.andThen]
  unfold Oper.wp
  simp [execOp, hop, resolve, invoke, builtin, hm, hx, hrun, Result.andThen]
  exact hK' _ _ hK

set_option maxHeartbeats 4000000 in
set_option maxRecDepth 100000 in
theorem sync1_none {w : World} {p bd : Nat} {S : DS} {v : DV} {lv : Value} {lost : List Nat} {armed : Nat} {P : Nat → Option Nat} (h : DiskP w p S v) (h1 : DiskIn w p S S.used v (.map none) lv lost armed P) (hkn : KnownIn S.fold lost P) (hl : S.fold.weight ≤ 80000)
    (hbd : w.heap[bd]? = some (.cells #[.pointer (some ⟨p, 0, none⟩)] 27 (0, 0))) (nd : ∀ k, ¬ v.M k bd) :
    Calls Tryz.prog 81 #[.pointer (some ⟨bd, 0, none⟩)] w fun e w' => e = .returned (.int .i64 0) ∧ WentK w p v { S with fold := S.fold.sync } w' := by
  have kd : w.cell? ⟨bd, 0, none⟩ = some (.pointer (some ⟨p, 0, none⟩)) := by rw [cell_of_row w bd 0 _ _ _ hbd]; rfl
  have q := fold_sync h1 h.parts (by omega)
  have hP : P = fun _ => none := by
    rcases h1.map with ⟨_, e⟩ | ⟨m, e, _⟩
    · exact e
    · cases e
  have hll : lost.length ≤ 100000 := by
    have h4 : S.fold.A.length ≤ S.fold.weight := by unfold Fld.FS.weight; omega
    have := hkn.2.2
    omega
  have hxl : ∀ k, k < lost.length → lost.getD k 0 ≤ 100000 := fun k hk => by
    have h4 : S.fold.n ≤ S.fold.weight := Nat.le_add_left _ _
    have hm : lost.getD k 0 ∈ lost := by
      have : lost.getD k 0 = lost[k] := by simp [List.getD, hk]
      rw [this]; exact List.getElem_mem hk
    have := (hkn.2.1 _ hm).1
    omega
  have HX := Lib.hid hxl
  obtain ⟨ad, c, hlv⟩ := ownsSlice h1.row
  have HB := Lib.hid (fun W v1 (t : v.To w W v1) => (show W.cell? ⟨bd, 0, none⟩ = some (.pointer (some ⟨p, 0, none⟩)) by
    rw [cell_of_row W bd 0 _ _ _ (t.block hbd nd)]; rfl))
  have hPs : pdels P lost = P := by
    rw [hP]
    exact funext fun y => by unfold pdels; split <;> rfl
  have HE := Lib.hid (fun W v1 fv a1 => @synced_end w W p S v v1 fv lv lost armed P h hkn (hPs.symm ▸ a1))
  have HLV := Lib.hid hlv
  clear h h1 hkn hl hbd nd hlv hPs hP hxl
  go_enter Tryz.func81, Tryz.ntmps81
  go_wp2_with (go_at_call 41; (with_reducible refine q.mono ?_); rintro e w1 ⟨rfl, v1, k1, k2, k3⟩; go_loud (have kd1 := HB.out _ _ k3; have K1 := Lib.hid k1; have K2 := Lib.hid k2; have K3 := Lib.hid k3; obtain ⟨k4, k5, _, _, _, _, _, fz⟩ := k1.cells; have f5 := fz 5; have hpl := k1.p_mem.2; have k5' : w1.cell? ⟨p, 5, none⟩ = some (.slice ad lost.length c) := k5.trans (congrArg some HLV.out); clear k1 k2 k3 k5 fz))
  go_loopw [13] (fun s13 wr => ∃ (k : Nat), k ≤ lost.length ∧ s13 = .int .i64 k ∧ wr = w1) (fun s13 _ => lost.length - (intOf s13).toNat)
  case atStart => exact ⟨0, Nat.zero_le _, rfl, rfl⟩
  case round =>
    obtain ⟨k, hk, rfl, rfl⟩ := hrel
    by_cases hlt : k < lost.length
    · have e1 : decide ((k : Int) < (lost.length : Int)) = true := decide_eq_true (by omega)
      have e1' : decide (k < lost.length) = true := decide_eq_true hlt
      obtain ⟨b, o, hbo, _, hc⟩ := row_num K1.out.row HLV.out k hlt
      obtain ⟨x, hxx⟩ : ∃ x, lost.getD k 0 = x := ⟨_, rfl⟩
      have hx := HX.out k hlt
      rw [hxx] at hc hx
      clear hxx
      subst hbo
      go_wp2_with (at_delete; refine wpList_drop_nil _ rfl _ _ rfl x (by omega) rfl rfl ?_)
      exact ⟨⟨k + 1, by omega, by go_num, (by first | rfl | trivial)⟩, by simp [intOf]; omega⟩
    · have e1 : decide ((k : Int) < (lost.length : Int)) = false := decide_eq_false (by omega)
      have e1' : decide (k < lost.length) = false := decide_eq_false hlt
      have HW := Lib.hid (HE.out _ _ _ K1.out K2.out K3.out)
      go_wp2_with fail
      go_ret
      exact ⟨rfl, HW.out⟩

theorem sync1_any {w : World} {p bd : Nat} {S : DS} {v : DV} (h : DiskP w p S v) (hl : S.fold.weight ≤ 80000)
    (hbd : w.heap[bd]? = some (.cells #[.pointer (some ⟨p, 0, none⟩)] 27 (0, 0))) (nd : ∀ k, ¬ v.M k bd) :
    Calls Tryz.prog 81 #[.pointer (some ⟨bd, 0, none⟩)] w fun e w' => e = .returned (.int .i64 (((S.syncDir0).2 : Nat) : Int)) ∧ WentK w p v (S.syncDir0).1 w' := by
  obtain ⟨fv, lv, lost, armed, P, h1, hkn⟩ := h.it
  rcases h1.map with ⟨rfl, _⟩ | ⟨m, rfl, _⟩
  · exact sync1_none h h1 hkn hl hbd nd
  · exact sync1_some h h1 hkn hl hbd nd

set_option maxHeartbeats 2000000 in
set_option maxRecDepth 100000 in
theorem syncDir_any {w : World} {p : Nat} {S : DS} {v : DV} (h : DiskP w p S v) (hl : S.fold.weight ≤ 80000) (hst : S.steps ≤ 90000) :
    Calls Tryz.prog 24 #[.pointer (some ⟨p, 0, none⟩)] w fun e w' => e = .returned (.int .i64 (((S.syncDir).2 : Nat) : Int)) ∧ WentK w p v (S.syncDir).1 w' := by
  have b1 : Below w.heap.size w (w.alloc (.cells #[.pointer (some ⟨p, 0, none⟩)] 27)) := (Below.refl _ w).alloc (Nat.le_refl _) _
  have o1 := World.alloc_heap_new w (.cells #[.pointer (some ⟨p, 0, none⟩)] 27)
  have nn := h.fresh (Nat.le_refl _)
  obtain ⟨w1, hw1⟩ : ∃ w1, w.alloc (.cells #[.pointer (some ⟨p, 0, none⟩)] 27) = w1 := ⟨_, rfl⟩
  rw [hw1] at b1 o1
  have k1 : w1.cell? ⟨w.heap.size, 0, none⟩ = some (.pointer (some ⟨p, 0, none⟩)) := by rw [cell_of_row w1 _ 0 _ _ _ o1]; rfl
  have GO := Lib.hid (method_go (F := 81) (caps := #[.pointer (some ⟨w.heap.size, 0, none⟩)]) h b1 (by omega) (by intro args w; kernel_rfl) (fun S => S.syncDir0) fun W hW bx => sync1_any hW hl (bx _ _ _ o1 (by decide)) nn)
  clear h nn hl hst b1 o1
  go_enter Tryz.func24, Tryz.ntmps24
  go_wp2_with (first
    | (go_at_call 48; (with_reducible refine (asked_any _ _ _ _).mono ?_); rintro e w2 ⟨bd, bo, rfl, e1, e2, b2⟩)
    | ((with_reducible refine (GO.out _ _ _ b2 e1 e2).mono ?_); rintro e w3 ⟨rfl, hW⟩))
  go_ret
  exact ⟨rfl, hW⟩

set_option maxHeartbeats 2000000 in
set_option maxRecDepth 100000 in
theorem remove_any {w : World} {p : Nat} {S : DS} {v : DV} (h : DiskP w p S v) (s : ByteArray) (hs : s.size ≤ nameMax) (hl : S.fold.weight ≤ 80000) (hu : S.used ≤ 100000000000000) (hst : S.steps ≤ 90000) :
    Calls Tryz.prog 27 #[.pointer (some ⟨p, 0, none⟩), .string s] w fun e w' => e = .returned (.int .i64 (((S.remove s).2 : Nat) : Int)) ∧ WentK w p v (S.remove s).1 w' := by
  have b1 := below_duo w (.cells #[.pointer (some ⟨p, 0, none⟩)] 27) (.cells #[.string s] 9)
  obtain ⟨o1, o2⟩ := heap_two w (.cells #[.pointer (some ⟨p, 0, none⟩)] 27) (.cells #[.string s] 9)
  have nn := h.fresh (Nat.le_refl _)
  obtain ⟨w1, hw1⟩ : ∃ w1, (w.alloc (.cells #[.pointer (some ⟨p, 0, none⟩)] 27)).alloc (.cells #[.string s] 9) = w1 := ⟨_, rfl⟩
  rw [hw1] at b1 o1 o2
  have k1 : w1.cell? ⟨w.heap.size, 0, none⟩ = some (.pointer (some ⟨p, 0, none⟩)) := by rw [cell_of_row w1 _ 0 _ _ _ o1]; rfl
  have GO := Lib.hid (method_go (F := 86) (caps := #[.pointer (some ⟨w.heap.size, 0, none⟩), .pointer (some ⟨w.heap.size + 1, 0, none⟩)]) h b1 (by omega) (by intro args w; kernel_rfl) (fun S => S.remove0 s) fun W hW bx => remove1_any hW s hs hl hu (bx _ _ _ o1 (by decide)) (bx _ _ _ o2 (by decide)) nn)
  clear h nn hs hl hu hst b1 o1 o2
  go_enter Tryz.func27, Tryz.ntmps27
  go_wp2_with (first
    | (go_at_call 48; (with_reducible refine (asked_any _ _ _ _).mono ?_); rintro e w2 ⟨bd, bo, rfl, e1, e2, b2⟩)
    | ((with_reducible refine (GO.out _ _ _ b2 e1 e2).mono ?_); rintro e w3 ⟨rfl, hW⟩))
  go_ret
  exact ⟨rfl, hW⟩

set_option maxHeartbeats 2000000 in
set_option maxRecDepth 100000 in
theorem rename_any {w : World} {p : Nat} {S : DS} {v : DV} (h : DiskP w p S v) (a b : ByteArray) (ha : a.size ≤ nameMax) (hb : b.size ≤ nameMax) (hl : S.fold.weight ≤ 80000) (hu : S.used ≤ 100000000000000) (hst : S.steps ≤ 90000) :
    Calls Tryz.prog 26 #[.pointer (some ⟨p, 0, none⟩), .string a, .string b] w fun e w' => e = .returned (.int .i64 (((S.rename a b).2 : Nat) : Int)) ∧ WentK w p v (S.rename a b).1 w' := by
  have b1 := below_three w (.cells #[.pointer (some ⟨p, 0, none⟩)] 27) (.cells #[.string a] 9) (.cells #[.string b] 9)
  obtain ⟨o1, o2, o3⟩ := heap_three w (.cells #[.pointer (some ⟨p, 0, none⟩)] 27) (.cells #[.string a] 9) (.cells #[.string b] 9)
  have nn := h.fresh (Nat.le_refl _)
  have n1 := h.fresh (n := w.heap.size + 1) (by omega)
  have n2 := h.fresh (n := w.heap.size + 1 + 1) (by omega)
  obtain ⟨w1, hw1⟩ : ∃ w1, ((w.alloc (.cells #[.pointer (some ⟨p, 0, none⟩)] 27)).alloc (.cells #[.string a] 9)).alloc (.cells #[.string b] 9) = w1 := ⟨_, rfl⟩
  rw [hw1] at b1 o1 o2 o3
  have k1 : w1.cell? ⟨w.heap.size, 0, none⟩ = some (.pointer (some ⟨p, 0, none⟩)) := by rw [cell_of_row w1 _ 0 _ _ _ o1]; rfl
  have GO := Lib.hid (method_go (F := 82) (caps := #[.pointer (some ⟨w.heap.size, 0, none⟩), .pointer (some ⟨w.heap.size + 1 + 1, 0, none⟩), .pointer (some ⟨w.heap.size + 1, 0, none⟩)]) h b1 (by omega) (by intro args w; kernel_rfl) (fun S => S.rename0 a b) fun W hW bx => rename1_any hW a b ha hb hl hu (bx _ _ _ o1 (by decide)) (bx _ _ _ o3 (by decide)) (bx _ _ _ o2 (by decide)) nn n2 n1)
  clear h nn n1 n2 ha hb hl hu hst b1 o1 o2 o3
  go_enter Tryz.func26, Tryz.ntmps26
  go_wp2_with (first
    | (go_at_call 48; (with_reducible refine (asked_any _ _ _ _).mono ?_); rintro e w2 ⟨bd, bo, rfl, e1, e2, b2⟩)
    | ((with_reducible refine (GO.out _ _ _ b2 e1 e2).mono ?_); rintro e w3 ⟨rfl, hW⟩))
  go_ret
  exact ⟨rfl, hW⟩
end Go.Proofs.YtmmoilmfpiclgaaGreat
namespace Go.Proofs.YtmmoilmfpiclgaaGreat
open Go.RowKit Go.Shelf
open Fld (FS Names FAct actsOn foundN foundB findT withT withoutT GoodN Rising mayB nam nameMax FolderS FolderIn ARow)

set_option maxHeartbeats 4000000 in
set_option maxRecDepth 100000 in
theorem change1_walk {w : World} {p bd bn bf b u l l' er F : Nat} {s : ByteArray} {caps : Array Value} {G : World → Prop}
    (kd : w.cell? ⟨bd, 0, none⟩ = some (.pointer (some ⟨p, 0, none⟩))) (kn : w.cell? ⟨bn, 0, none⟩ = some (.string s)) (kf : w.cell? ⟨bf, 0, none⟩ = some (.func (.func F) #[] caps)) (eg : ∀ args w, (callFunc F args).run Tryz.prog w = .ok (.enter F args) w)
    (q0 : Calls Tryz.prog 79 #[.pointer (some ⟨p, 0, none⟩), .string s] w fun e w' => e = .returned (.tuple #[.pointer (some ⟨b, 0, none⟩), .int .i64 0]) ∧ w = w')
    (q1 : Calls Tryz.prog 91 #[.pointer (some ⟨b, 0, none⟩)] w fun e w' => e = .returned (.int .i64 (l : Nat)) ∧ w = w')
    (q2 : Calls Tryz.prog F (#[.pointer (some ⟨b, 0, none⟩)] ++ caps) w fun e w' => e = .returned (.int .i64 (er : Nat)) ∧ G w')
    (hG : ∀ W, G W → W.cell? ⟨bd, 0, none⟩ = some (.pointer (some ⟨p, 0, none⟩)) ∧ W.cell? ⟨p, 7, none⟩ = some (.int .i64 (u : Int)) ∧ W.frozen? ⟨p, 7, none⟩ = false ∧ p < W.heap.size ∧ Calls Tryz.prog 91 #[.pointer (some ⟨b, 0, none⟩)] W.drew fun e w' => e = .returned (.int .i64 (l' : Nat)) ∧ W.drew = w')
    (hu : u ≤ 1000000000000000) (hl : l ≤ 1000000) (hl' : l' ≤ 1000000) :
    Calls Tryz.prog 109 #[.pointer (some ⟨bd, 0, none⟩), .pointer (some ⟨bn, 0, none⟩), .pointer (some ⟨bf, 0, none⟩)] w fun e w' => e = .returned (.int .i64 (er : Nat)) ∧ ∃ W, G W ∧ w' = (W.setCell ⟨p, 7, none⟩ (.int .i64 ((u : Int) + ((l' : Int) - (l : Int))))).drew := by
  have HG := Lib.hid hG
  have Q0 := Lib.hid q0
  have Q1 := Lib.hid q1
  have Q2 := Lib.hid q2
  have ef := eg (#[.pointer (some ⟨b, 0, none⟩)] ++ caps) w
  have s1 : IntKind.i64.wrap ((l' : Int) - (l : Int)) = (l' : Int) - (l : Int) := IntWalk.i64_in _ (by omega)
  have s2 : IntKind.i64.wrap ((u : Int) + ((l' : Int) - (l : Int))) = (u : Int) + ((l' : Int) - (l : Int)) := IntWalk.i64_in _ (by omega)
  clear hG q0 q1 q2 eg
  go_enter Tryz.func109, Tryz.ntmps109
  go_upto_region 6 with (first
    | (go_at_call 79; (with_reducible refine Q0.out.mono ?_); rintro e w' ⟨rfl, rfl⟩)
    | (go_at_call 91; (with_reducible refine Q1.out.mono ?_); rintro e w' ⟨rfl, rfl⟩)
    | ((with_reducible refine Q2.out.mono ?_); rintro e w3 ⟨rfl, hg⟩; obtain ⟨g1, g2, g3, g4, g5⟩ := HG.out _ hg; have G5 := Lib.hid g5; have HGG := Lib.hid hg; clear g5 hg))
  go_region_with (go_at_call 91; (with_reducible refine G5.out.mono ?_); rintro e w' ⟨rfl, rfl⟩)
  all_goals
    go_wp2
    go_ret
    exact ⟨rfl, _, HGG.out, rfl⟩

/-- As method_go, and it is not down. -/
theorem method_up {w w1 : World} {p : Nat} {S : DS} {v : DV} (h : DiskP w p S v) (b1 : Below w.heap.size w w1) (hst : S.steps ≤ 100000) {F : Nat} {caps : Array Value} (eg : ∀ args w, (callFunc F args).run Tryz.prog w = .ok (.enter F args) w) (g : DS → DS × Nat)
    (hdo : ∀ W, DiskP W p S.stepped v → S.stepped.down = false → (∀ (b : Nat) (cs : Array Value) (T : TypeId), w1.heap[b]? = some (.cells cs T (0, 0)) → T ≠ 77 → W.heap[b]? = some (.cells cs T (0, 0))) → Calls Tryz.prog F caps W fun e w' => e = .returned (.int .i64 (((g S.stepped).2 : Nat) : Int)) ∧ WentK W p v (g S.stepped).1 w') :
    ∀ w2 bd bo, Below w1.heap.size w1 w2 → w2.heap[bd]? = some (.cells #[.pointer (some ⟨p, 0, none⟩)] 27 (0, 0)) → w2.heap[bo]? = some (.cells #[.func (.func F) #[] caps] 53 (0, 0)) →
    Calls Tryz.prog 107 #[.pointer (some ⟨bd, 0, none⟩), .pointer (some ⟨bo, 0, none⟩)] w2 fun e w' => e = .returned (.int .i64 (((S.doing g).2 : Nat) : Int)) ∧ WentK w p v (S.doing g).1 w' := fun w2 bd bo b2 e1 e2 => by
  have b2' : Below w.heap.size w1 w2 := b2.mono b1.size
  have h2 := h.below (b1.trans b2')
  obtain ⟨cs', hp⟩ := h2.cellP
  refine (asked1_any h2 hst eg e1 e2 (((g S.stepped).2 : Nat) : Int) (fun w' => WentK w2 p v (g S.stepped).1 w') fun W hW ht hg hd => ?_).mono fun e w' hA => ?_
  · refine (hdo W hW hd fun b cs T hb hT => box_grown hg ((b2.block b (Array.getElem?_eq_some_iff.1 hb).1).trans hb) hp hT).mono fun e w' ⟨he, hw⟩ => ⟨he, ?_⟩
    obtain ⟨v2, k1, k2⟩ := hw
    exact ⟨v2, k1, ht.trans (fun b hb => h2.rowLt hb) k2⟩
  · obtain ⟨k1, k2⟩ := asked_done hA
    exact ⟨k1, WentK.after h (b1.trans b2') k2⟩

theorem change0_none {S : DS} {s : ByteArray} {g : FileS → FileS × Nat} (h : foundB S.fold.there s.data.toList = false) : S.change0 s g = (S, 9) := by
  unfold DS.change0; rw [if_neg (by rw [h]; exact Bool.false_ne_true)]
theorem change0_some {S : DS} {s : ByteArray} {g : FileS → FileS × Nat} (h : foundB S.fold.there s.data.toList = true) :
    S.change0 s g = ({ S with file := upd S.file (foundN S.fold.there s.data.toList) (g (S.file (foundN S.fold.there s.data.toList))).1 }, (g (S.file (foundN S.fold.there s.data.toList))).2) := by
  unfold DS.change0; rw [if_pos h]

set_option maxHeartbeats 2000000 in
set_option maxRecDepth 100000 in
theorem change1_none {w : World} {p bd bn bf : Nat} {S : DS} {v : DV} {s : ByteArray} (h : DiskP w p S v) (hs : s.size ≤ nameMax) (hd : S.down = false) (hf : foundB S.fold.there s.data.toList = false)
    (kd : w.cell? ⟨bd, 0, none⟩ = some (.pointer (some ⟨p, 0, none⟩))) (kn : w.cell? ⟨bn, 0, none⟩ = some (.string s)) :
    Calls Tryz.prog 109 #[.pointer (some ⟨bd, 0, none⟩), .pointer (some ⟨bn, 0, none⟩), .pointer (some ⟨bf, 0, none⟩)] w fun e w' => e = .returned (.int .i64 9) ∧ w = w' := by
  have Q0 := Lib.hid (find_none h s hs hd hf)
  clear h
  go_enter Tryz.func109, Tryz.ntmps109
  go_wp2_with (go_at_call 79; (with_reducible refine Q0.out.mono ?_); rintro e w' ⟨rfl, rfl⟩)
  go_ret
  exact ⟨rfl, rfl⟩

theorem change1_any {w : World} {p bd bn bf F : Nat} {S : DS} {v : DV} {caps : Array Value} (h : DiskP w p S v) (s : ByteArray) (hs : s.size ≤ nameMax) (hd : S.down = false) (hl : S.fold.weight ≤ 80000) (hu : S.used ≤ 100000000000000) (eg : ∀ args w, (callFunc F args).run Tryz.prog w = .ok (.enter F args) w)
    (hbd : w.heap[bd]? = some (.cells #[.pointer (some ⟨p, 0, none⟩)] 27 (0, 0))) (hbn : w.heap[bn]? = some (.cells #[.string s] 9 (0, 0))) (hbf : w.heap[bf]? = some (.cells #[.func (.func F) #[] caps] 98 (0, 0))) (nd : ∀ k, ¬ v.M k bd) (g : FileS → FileS × Nat) (hsm : (g (S.file (foundN S.fold.there s.data.toList))).1.heft ≤ 100000)
    (hdo : foundB S.fold.there s.data.toList = true → ∀ b, FileAt w b (S.file (foundN S.fold.there s.data.toList)).D (S.file (foundN S.fold.there s.data.toList)).A (v.M (foundN S.fold.there s.data.toList + 3)) (v.I (foundN S.fold.there s.data.toList + 3)) →
      Calls Tryz.prog F (#[.pointer (some ⟨b, 0, none⟩)] ++ caps) w (Went w b (g (S.file (foundN S.fold.there s.data.toList))).1.D (g (S.file (foundN S.fold.there s.data.toList))).1.A (v.M (foundN S.fold.there s.data.toList + 3)) (v.I (foundN S.fold.there s.data.toList + 3)) (.int .i64 (((g (S.file (foundN S.fold.there s.data.toList))).2 : Nat) : Int)))) :
    Calls Tryz.prog 109 #[.pointer (some ⟨bd, 0, none⟩), .pointer (some ⟨bn, 0, none⟩), .pointer (some ⟨bf, 0, none⟩)] w fun e w' => e = .returned (.int .i64 (((S.change0 s g).2 : Nat) : Int)) ∧ WentK w p v (S.change0 s g).1 w' := by
  have kd : w.cell? ⟨bd, 0, none⟩ = some (.pointer (some ⟨p, 0, none⟩)) := by rw [cell_of_row w bd 0 _ _ _ hbd]; rfl
  have kn : w.cell? ⟨bn, 0, none⟩ = some (.string s) := by rw [cell_of_row w bn 0 _ _ _ hbn]; rfl
  have kf : w.cell? ⟨bf, 0, none⟩ = some (.func (.func F) #[] caps) := by rw [cell_of_row w bf 0 _ _ _ hbf]; rfl
  by_cases hf : foundB S.fold.there s.data.toList = true
  · obtain ⟨fv, lv, lost, armed, P, h1, hkn⟩ := h.it
    have hnn : S.fold.n ≤ 100000 := by
      have h4 : S.fold.n ≤ S.fold.weight := Nat.le_add_left _ _
      omega
    obtain ⟨b, hb, hfind⟩ := find_some h1 hkn.1 hnn s hs hd h.good.there.rising hf
    have hus := change_used h.good hf (g (S.file (foundN S.fold.there s.data.toList))).1
    have hdo := hdo hf b (h1.files _ b hb).1
    rw [change0_some hf]
    obtain ⟨n, hn⟩ : ∃ n, foundN S.fold.there s.data.toList = n := ⟨_, rfl⟩
    rw [hn] at hb hdo hus hsm ⊢
    obtain ⟨y, hy⟩ : ∃ y, g (S.file n) = y := ⟨_, rfl⟩
    rw [hy] at hdo hus hsm ⊢
    obtain ⟨⟨D', A'⟩, er⟩ := y
    simp only at hdo hus hsm ⊢
    have hfa := (h1.files n b hb).1
    have sm := hfa.small
    have hrl : (S.file n).R.length ≤ 100000 := Nat.le_trans (reads_length _ _) sm
    have hrl' : (reads D' A').length ≤ 100000 := Nat.le_trans (reads_length _ _) hsm
    refine (change1_walk (G := fun W => ∃ M' I' : Nat → Prop, FileAt W b D' A' M' I' ∧ (∀ g, M' g → v.M (n + 3) g ∨ w.heap.size ≤ g) ∧ (∀ g, I' g → v.I (n + 3) g ∨ w.heap.size ≤ g) ∧ Kept (v.M (n + 3)) w W) (l := (S.file n).R.length) (l' := (reads D' A').length) (u := S.used) kd kn kf eg hfind (len_any hfa) (hdo.mono fun e w' ⟨he, hx⟩ => ⟨he, hx⟩) ?_ (by omega) (by omega) (by omega)).mono ?_
    · rintro W ⟨M', I', f1, f2, f3, f4⟩
      obtain ⟨v', d1, d2, d3⟩ := h1.filed h.parts hb f1 f2 f3 f4 (h1.one h.parts hb)
      have hbd' : W.heap[bd]? = some (.cells #[.pointer (some ⟨p, 0, none⟩)] 27 (0, 0)) := d3.block hbd nd
      obtain ⟨_, _, _, k7, _, _, _, fz⟩ := d1.cells
      exact ⟨by rw [cell_of_row W bd 0 _ _ _ hbd']; rfl, k7, fz 7, d1.p_mem.2, len_any (f1.same (w' := W.drew) (fun _ _ => rfl) (Nat.le_refl _))⟩
    · rintro e w' ⟨rfl, W, ⟨M', I', f1, f2, f3, f4⟩, rfl⟩
      obtain ⟨v', d1, d2, d3⟩ := h1.filed h.parts hb f1 f2 f3 f4 (h1.one h.parts hb)
      have hU : ((S.used : Int) + (((reads D' A').length : Int) - ((S.file n).R.length : Int))) = ((({ S with file := upd S.file n ⟨D', A'⟩ } : DS).used : Nat) : Int) := by
        have : ({ S with file := upd S.file n ⟨D', A'⟩ } : DS).used + (S.file n).R.length = S.used + (reads D' A').length := hus
        omega
      obtain ⟨c1, c2, c3⟩ := d1.number (S' := { S with file := upd S.file n ⟨D', A'⟩ }) d2 3 (.int .i64 ((S.used : Int) + (((reads D' A').length : Int) - ((S.file n).R.length : Int)))) (armed' := armed) (u' := ({ S with file := upd S.file n ⟨D', A'⟩ } : DS).used) (by rw [hU]; rfl) rfl rfl d1.arm d1.armLe
      obtain ⟨e1, e2, e3⟩ := c1.below c2 (drewB _)
      exact ⟨rfl, v', ⟨⟨_, _, _, _, _, e1, hkn⟩, h.good, e2, h.room⟩, (d3.trans (fun b hb => h.rowLt hb) c3).trans (fun b hb => h.rowLt hb) e3⟩
  · have hf : foundB S.fold.there s.data.toList = false := by simpa using hf
    rw [change0_none hf]
    refine (change1_none h hs hd hf kd kn).mono ?_
    rintro e w' ⟨rfl, rfl⟩
    exact ⟨rfl, h.went_below (Below.refl _ _)⟩

set_option maxHeartbeats 2000000 in
set_option maxRecDepth 100000 in
/-- A step that changes a file, or syncs it, by whatever is done to it. -/
theorem change_any {w : World} {p F : Nat} {S : DS} {v : DV} {caps : Array Value} (h : DiskP w p S v) (s : ByteArray) (hs : s.size ≤ nameMax) (hl : S.fold.weight ≤ 80000) (hu : S.used ≤ 100000000000000) (hst : S.steps ≤ 90000) (eg : ∀ args w, (callFunc F args).run Tryz.prog w = .ok (.enter F args) w) (g : FileS → FileS × Nat) (hsm : (g (S.file (foundN S.fold.there s.data.toList))).1.heft ≤ 100000)
    (hdo : ∀ W, DiskP W p S.stepped v → (∀ (b : Nat) (cs : Array Value) (T : TypeId), w.heap[b]? = some (.cells cs T (0, 0)) → T ≠ 77 → W.heap[b]? = some (.cells cs T (0, 0))) → foundB S.fold.there s.data.toList = true → ∀ b, FileAt W b (S.file (foundN S.fold.there s.data.toList)).D (S.file (foundN S.fold.there s.data.toList)).A (v.M (foundN S.fold.there s.data.toList + 3)) (v.I (foundN S.fold.there s.data.toList + 3)) →
      Calls Tryz.prog F (#[.pointer (some ⟨b, 0, none⟩)] ++ caps) W (Went W b (g (S.file (foundN S.fold.there s.data.toList))).1.D (g (S.file (foundN S.fold.there s.data.toList))).1.A (v.M (foundN S.fold.there s.data.toList + 3)) (v.I (foundN S.fold.there s.data.toList + 3)) (.int .i64 (((g (S.file (foundN S.fold.there s.data.toList))).2 : Nat) : Int)))) :
    Calls Tryz.prog 50 #[.pointer (some ⟨p, 0, none⟩), .string s, .func (.func F) #[] caps] w fun e w' => e = .returned (.int .i64 (((S.change s g).2 : Nat) : Int)) ∧ WentK w p v (S.change s g).1 w' := by
  have b1 := below_three w (.cells #[.pointer (some ⟨p, 0, none⟩)] 27) (.cells #[.string s] 9) (.cells #[.func (.func F) #[] caps] 98)
  obtain ⟨o1, o2, o3⟩ := heap_three w (.cells #[.pointer (some ⟨p, 0, none⟩)] 27) (.cells #[.string s] 9) (.cells #[.func (.func F) #[] caps] 98)
  have nn := h.fresh (Nat.le_refl _)
  obtain ⟨w1, hw1⟩ : ∃ w1, ((w.alloc (.cells #[.pointer (some ⟨p, 0, none⟩)] 27)).alloc (.cells #[.string s] 9)).alloc (.cells #[.func (.func F) #[] caps] 98) = w1 := ⟨_, rfl⟩
  rw [hw1] at b1 o1 o2 o3
  have k1 : w1.cell? ⟨w.heap.size, 0, none⟩ = some (.pointer (some ⟨p, 0, none⟩)) := by rw [cell_of_row w1 _ 0 _ _ _ o1]; rfl
  have GO := Lib.hid (method_up (F := 109) (caps := #[.pointer (some ⟨w.heap.size, 0, none⟩), .pointer (some ⟨w.heap.size + 1, 0, none⟩), .pointer (some ⟨w.heap.size + 1 + 1, 0, none⟩)]) h b1 (by omega) (by intro args w; kernel_rfl) (fun S => S.change0 s g) fun W hW hd bx =>
    change1_any hW s hs hd hl hu eg (bx _ _ _ o1 (by decide)) (bx _ _ _ o2 (by decide)) (bx _ _ _ o3 (by decide)) nn g hsm fun hf b hb => hdo W hW (fun b cs T hb hT => bx b cs T ((b1.block b (Array.getElem?_eq_some_iff.1 hb).1).trans hb) hT) hf b hb)
  clear h nn hs hl hu hst b1 o1 o2 o3 hdo eg hsm
  go_enter Tryz.func50, Tryz.ntmps50
  go_wp2_with (first
    | (go_at_call 48; (with_reducible refine (asked_any _ _ _ _).mono ?_); rintro e w2 ⟨bd, bo, rfl, e1, e2, b2⟩)
    | ((with_reducible refine (GO.out _ _ _ b2 e1 e2).mono ?_); rintro e w3 ⟨rfl, hW⟩))
  go_ret
  exact ⟨rfl, hW⟩

set_option maxHeartbeats 2000000 in
set_option maxRecDepth 100000 in
theorem sync_file {w : World} {b : Nat} {D : List UInt8} {A : List Do} {M I : Nat → Prop} (h : FileAt w b D A M I) : Calls Tryz.prog 77 #[.pointer (some ⟨b, 0, none⟩)] w (Went w b (reads D A) [] M I (.int .i64 0)) := by
  have Q := Lib.hid (sync_any h)
  clear h
  go_enter Tryz.func77, Tryz.ntmps77
  go_wp2_with (go_at_call 78; (with_reducible refine Q.out.mono ?_); rintro e w2 ⟨rfl, hW⟩)
  go_ret
  exact ⟨rfl, hW⟩

set_option maxHeartbeats 2000000 in
set_option maxRecDepth 100000 in
theorem truncate_file {w : World} {b bn : Nat} {D : List UInt8} {A : List Do} {M I : Nat → Prop} {n : Int} (h : FileAt w b D A M I) (hlen : A.length ≤ 1000) (h1 : -9223372036854775808 ≤ n) (h2 : n ≤ 9223372036854775807) (hn : w.heap[bn]? = some (.cells #[.int .i64 n] 3 (0, 0))) :
    Calls Tryz.prog 75 #[.pointer (some ⟨b, 0, none⟩), .pointer (some ⟨bn, 0, none⟩)] w (Went w b D (cutT (reads D A) A n) M I (.int .i64 (cutE (reads D A) n))) := by
  have kn : w.cell? ⟨bn, 0, none⟩ = some (.int .i64 n) := by rw [cell_of_row w bn 0 _ _ _ hn]; rfl
  have Q := Lib.hid (cut_any h hlen h1 h2)
  clear h hn
  go_enter Tryz.func75, Tryz.ntmps75
  go_wp2_with (go_at_call 76; (with_reducible refine Q.out.mono ?_); rintro e w2 ⟨rfl, hW⟩)
  go_ret
  exact ⟨rfl, hW⟩

set_option maxHeartbeats 2000000 in
set_option maxRecDepth 100000 in
theorem disk_sync {w : World} {p : Nat} {S : DS} {v : DV} (h : DiskP w p S v) (s : ByteArray) (hs : s.size ≤ nameMax) (hl : S.fold.weight ≤ 80000) (hu : S.used ≤ 100000000000000) (hst : S.steps ≤ 90000) (hh : (S.file (foundN S.fold.there s.data.toList)).heft ≤ 100000) :
    Calls Tryz.prog 22 #[.pointer (some ⟨p, 0, none⟩), .string s] w fun e w' => e = .returned (.int .i64 (((S.sync s).2 : Nat) : Int)) ∧ WentK w p v (S.sync s).1 w' := by
  have Q := Lib.hid (change_any (F := 77) (caps := #[]) h s hs hl hu hst (by intro args w; kernel_rfl) syncG (syncG_light (a := 0) _ hh).2 fun W hW bx hf b hb => sync_file hb)
  clear h hs hl hu hst hh
  go_enter Tryz.func22, Tryz.ntmps22
  go_wp2_with (go_at_call 50; (with_reducible refine Q.out.mono ?_); rintro e w2 ⟨rfl, hW⟩)
  go_ret
  exact ⟨rfl, hW⟩

set_option maxHeartbeats 2000000 in
set_option maxRecDepth 100000 in
theorem disk_truncate {w : World} {p : Nat} {S : DS} {v : DV} {n : Int} (h : DiskP w p S v) (s : ByteArray) (hs : s.size ≤ nameMax) (hl : S.fold.weight ≤ 80000) (hu : S.used ≤ 100000000000000) (hst : S.steps ≤ 90000) (hh : (S.file (foundN S.fold.there s.data.toList)).heft ≤ 100000) (ha : (S.file (foundN S.fold.there s.data.toList)).A.length ≤ 1000)
    (h1 : -9223372036854775808 ≤ n) (h2 : n ≤ 9223372036854775807) :
    Calls Tryz.prog 20 #[.pointer (some ⟨p, 0, none⟩), .string s, .int .i64 n] w fun e w' => e = .returned (.int .i64 (((S.truncate s n).2 : Nat) : Int)) ∧ WentK w p v (S.truncate s n).1 w' := by
  have b1 : Below w.heap.size w (w.alloc (.cells #[.int .i64 n] 3)) := (Below.refl _ w).alloc (Nat.le_refl _) _
  have o1 := World.alloc_heap_new w (.cells #[.int .i64 n] 3)
  obtain ⟨w1, hw1⟩ : ∃ w1, w.alloc (.cells #[.int .i64 n] 3) = w1 := ⟨_, rfl⟩
  rw [hw1] at b1 o1
  have hce : ∀ f : FileS, ((cutG n f).2 : Nat) = (cutE f.R n : Int) := fun f => by
    show ((cutE f.R n).toNat : Int) = cutE f.R n
    unfold cutE
    split <;> rfl
  have Q := Lib.hid (change_any (F := 75) (caps := #[.pointer (some ⟨w.heap.size, 0, none⟩)]) (h.below b1) s hs hl hu hst (by intro args w; kernel_rfl) (cutG n) (cutG_light (a := 1000) n _ ha hh).2 fun W hW bx hf b hb => by
    rw [hce]
    exact truncate_file hb ha h1 h2 (bx _ _ _ o1 (by decide)))
  have HA := Lib.hid (fun S' w' (hW : WentK w1 p v S' w') => WentK.after h b1 hW)
  clear h hs hl hu hst hh b1 o1 hce
  go_enter Tryz.func20, Tryz.ntmps20
  go_wp2_with (go_at_call 50; (with_reducible refine Q.out.mono ?_); rintro e w2 ⟨rfl, hW⟩)
  go_ret
  exact ⟨rfl, HA.out _ _ hW⟩
end Go.Proofs.YtmmoilmfpiclgaaGreat
namespace Go.Proofs.YtmmoilmfpiclgaaGreat
open Go.RowKit Go.Shelf
open Fld (FS Names FAct actsOn foundN foundB findT withT withoutT GoodN Rising mayB nam nameMax FolderS FolderIn ARow)

set_option maxHeartbeats 2000000 in
set_option maxRecDepth 100000 in
theorem room_walk {w : World} {p q u r : Nat} (k6 : w.cell? ⟨p, 6, none⟩ = some (.int .i64 (q : Int))) (k7 : w.cell? ⟨p, 7, none⟩ = some (.int .i64 (u : Int))) (hq : q ≤ 1000000000000000) (hu : u ≤ 1000000000000000) (hr : r = q - u) :
    Calls Tryz.prog 53 #[.pointer (some ⟨p, 0, none⟩)] w fun e w' => e = .returned (.int .i64 (r : Nat)) ∧ w' = w.drew := by
  have s1 : IntKind.i64.wrap ((q : Int) - (u : Int)) = (q : Int) - (u : Int) := IntWalk.i64_in _ (by omega)
  have s2 : max ((q : Int) - (u : Int)) 0 = (r : Int) := by omega
  clear hr
  go_enter Tryz.func53, Tryz.ntmps53
  go_upto_region 1 with fail
  go_region
  go_wp2
  go_ret
  exact ⟨rfl, rfl⟩

theorem went_after {w w1 : World} {b : Nat} {D' : List UInt8} {A' : List Do} {M I : Nat → Prop} {r : Value} {e : Ending} {w' : World} (hb : Below w.heap.size w w1) (h : Went w1 b D' A' M I r e w') : Went w b D' A' M I r e w' := by
  obtain ⟨he, M', I', h1, h2, h3, h4⟩ := h
  exact ⟨he, M', I', h1, fun g hg => (h2 g hg).imp id (fun h => Nat.le_trans hb.size h), fun g hg => (h3 g hg).imp id (fun h => Nat.le_trans hb.size h), (Kept.below hb).trans h4 fun g hg => .inl hg⟩

theorem strs_one (w : World) (x : ByteArray) : Strs (w.alloc (.cells #[.string x] 9)).drew (.slice (some ⟨w.heap.size, 0, none⟩) 1 1) [x] := ⟨_, 1, rfl, fun i hi => by
  have h0 : i = 0 := by simpa using hi
  subst h0
  exact ⟨w.heap.size, 0, rfl, cell_one_new w (.string x) 9 0 _ rfl⟩⟩

set_option maxHeartbeats 4000000 in
set_option maxRecDepth 100000 in
theorem append_file {w : World} {b bl bd p q u : Nat} {D : List UInt8} {A : List Do} {M I : Nat → Prop} {lv : Value} {s : ByteArray} (h : FileAt w b D A M I) (hlen : A.length ≤ 1000) (hb : bulk D A + min s.size (q - u) ≤ 100000)
    (hl : w.heap[bl]? = some (.cells #[lv] 62 (0, 0))) (hlv : ∃ ad n c, lv = .slice ad n c) (hd : w.heap[bd]? = some (.cells #[.pointer (some ⟨p, 0, none⟩)] 27 (0, 0)))
    (qj : Calls Tryz.prog 52 #[lv, .string ⟨#[]⟩] w fun e w' => e = .returned (.string s) ∧ Below w.heap.size w w') (hs : s.size ≤ 1000000000000000)
    (k6 : w.cell? ⟨p, 6, none⟩ = some (.int .i64 (q : Int))) (k7 : w.cell? ⟨p, 7, none⟩ = some (.int .i64 (u : Int))) (hq : q ≤ 1000000000000000) (hu : u ≤ 1000000000000000) :
    Calls Tryz.prog 51 #[.pointer (some ⟨b, 0, none⟩), .pointer (some ⟨bl, 0, none⟩), .pointer (some ⟨bd, 0, none⟩)] w (Went w b D (appT A (s.data.toList.take (q - u))) M I (.int .i64 (if s.size ≤ q - u then 0 else 10))) := by
  have kl : w.cell? ⟨bl, 0, none⟩ = some lv := by rw [cell_of_row w bl 0 _ _ _ hl]; rfl
  have kd : w.cell? ⟨bd, 0, none⟩ = some (.pointer (some ⟨p, 0, none⟩)) := by rw [cell_of_row w bd 0 _ _ _ hd]; rfl
  have HK := Lib.hid (fun W (B : Below w.heap.size w W) => And.intro ((B.cell (p := ⟨bd, 0, none⟩) (block_lt_of_cell kd)).trans kd) (And.intro ((B.cell (p := ⟨p, 6, none⟩) (block_lt_of_cell k6)).trans k6) ((B.cell (p := ⟨p, 7, none⟩) (block_lt_of_cell k7)).trans k7)))
  obtain ⟨r, hr⟩ : ∃ r, r = q - u := ⟨_, rfl⟩
  have HR := Lib.hid (fun W (B : Below w.heap.size w W) => room_walk (w := W) (HK.out W B).2.1 (HK.out W B).2.2 hq hu hr)
  rw [← hr] at hb ⊢
  obtain ⟨k, hk⟩ : ∃ k, min s.size r = k := ⟨_, rfl⟩
  have hmin : min (s.size : Int) (r : Int) = (k : Int) := by omega
  have hks : k ≤ s.size := by omega
  obtain ⟨x, hx⟩ : ∃ x, s.extract 0 k = x := ⟨_, rfl⟩
  have hxs : x.size = k := by rw [← hx]; simp; omega
  have hxd : joined [x] = s.data.toList.take r := by
    unfold joined
    rw [← hx, List.flatMap_cons, List.flatMap_nil, List.append_nil, ba_extract]
    simp
    rw [← hk]
    omega
  obtain ⟨bb, hbb⟩ : ∃ bb, ((x.size : Int) == (s.size : Int)) = bb := ⟨_, rfl⟩
  have hres : (if s.size ≤ r then (0 : Int) else 10) = if bb = true then 0 else 10 := by
    rw [← hbb, hxs]
    by_cases e : s.size ≤ r
    · have : k = s.size := by omega
      simp [e, this]
    · have : k ≠ s.size := by omega
      have h2 : ¬ ((k : Int) = (s.size : Int)) := by omega
      simp [e, h2]
  rw [hres, ← hxd]
  have hsl : s.data.toList.length = s.size := by simp
  have HF := Lib.hid (fun W v (B : Below w.heap.size w W) (hv : Strs W v [x]) => append_any (h.below B) hv (by simp) (by rw [hxd, List.length_take, hsl, Nat.min_comm]; exact hb) hlen)
  obtain ⟨ad, n, c, rfl⟩ := hlv
  clear h hl hd hres hxd hr hk
  have QJ := Lib.hid qj
  clear qj
  cases bb
  all_goals
    simp only [if_true, if_false, Bool.false_eq_true]
    go_enter Tryz.func51, Tryz.ntmps51
    go_wp2_with (first
      | (go_at_call 52; (with_reducible refine QJ.out.mono ?_); rintro e w1 ⟨rfl, B1⟩; go_loud (have HB1 := Lib.hid B1; obtain ⟨kd1, _, _⟩ := HK.out _ B1; have HS := Lib.hid (strs_one w1 x); have HB2 := Lib.hid (Below.next B1 (((Below.refl w1.heap.size w1).alloc (Nat.le_refl _) (.cells #[.string x] 9)).drew)); clear B1))
      | (go_at_call 53; (with_reducible refine (HR.out _ HB1.out).mono ?_); rintro e w2 ⟨rfl, rfl⟩)
      | (go_at_call 54; (with_reducible refine (HF.out _ _ HB2.out HS.out).mono ?_); rintro e w3 ⟨rfl, hW⟩))
    go_ret
    exact went_after HB2.out ⟨rfl, hW⟩

set_option maxHeartbeats 2000000 in
set_option maxRecDepth 100000 in
theorem disk_append {w : World} {p : Nat} {S : DS} {v : DV} {lv : Value} {x : ByteArray} (h : DiskP w p S v) (s : ByteArray) (hs : s.size ≤ nameMax) (hl : S.fold.weight ≤ 80000) (hu : S.used ≤ 100000000000000) (hst : S.steps ≤ 90000) (hh : (S.file (foundN S.fold.there s.data.toList)).heft + min x.size S.room ≤ 100000) (ha : (S.file (foundN S.fold.there s.data.toList)).A.length ≤ 1000)
    (hlv : ∃ ad n c, lv = .slice ad n c) (hx : x.size ≤ 1000000000000000) (qj : ∀ W, (∀ (b : Nat) (cs : Array Value) (T : TypeId), w.heap[b]? = some (.cells cs T (0, 0)) → T ≠ 77 → W.heap[b]? = some (.cells cs T (0, 0))) → Calls Tryz.prog 52 #[lv, .string ⟨#[]⟩] W fun e w' => e = .returned (.string x) ∧ Below W.heap.size W w') :
    Calls Tryz.prog 13 #[.pointer (some ⟨p, 0, none⟩), .string s, lv] w fun e w' => e = .returned (.int .i64 (((S.append s x.data.toList).2 : Nat) : Int)) ∧ WentK w p v (S.append s x.data.toList).1 w' := by
  have b1 := below_duo w (.cells #[.pointer (some ⟨p, 0, none⟩)] 27) (.cells #[lv] 62)
  obtain ⟨o1, o2⟩ := heap_two w (.cells #[.pointer (some ⟨p, 0, none⟩)] 27) (.cells #[lv] 62)
  obtain ⟨w1, hw1⟩ : ∃ w1, (w.alloc (.cells #[.pointer (some ⟨p, 0, none⟩)] 27)).alloc (.cells #[lv] 62) = w1 := ⟨_, rfl⟩
  rw [hw1] at b1 o1 o2
  have k1 : w1.cell? ⟨w.heap.size, 0, none⟩ = some (.pointer (some ⟨p, 0, none⟩)) := by rw [cell_of_row w1 _ 0 _ _ _ o1]; rfl
  have hxl : x.data.toList.length = x.size := by simp
  have hroom := h.room
  have hne : ∀ f : FileS, (((appG (S.room - S.used) x.data.toList f).2 : Nat) : Int) = if x.size ≤ S.room - S.used then 0 else 10 := fun f => by
    show (((if x.data.toList.length ≤ S.room - S.used then 0 else 10 : Nat) : Nat) : Int) = _
    rw [hxl]
    split <;> rfl
  have hm : min x.size (S.room - S.used) ≤ min x.size S.room := by omega
  have Q := Lib.hid (change_any (F := 51) (caps := #[.pointer (some ⟨w.heap.size + 1, 0, none⟩), .pointer (some ⟨w.heap.size, 0, none⟩)]) (h.below b1) s hs hl hu hst (by intro args w; kernel_rfl) (appG (S.room - S.used) x.data.toList) (by
      have := (appG_light (a := 1000) (m := min x.size S.room) (room := S.room - S.used) x.data.toList (by rw [hxl]; exact hm) (S.file (foundN S.fold.there s.data.toList)) ha (Nat.le_refl _)).2
      omega) fun W hW bx hf b hb => by
    rw [hne]
    obtain ⟨fv, lv', lost, armed, P, d1, _⟩ := hW.it
    obtain ⟨_, _, k6, k7, _⟩ := d1.cells
    have hbu : bulk (S.file (foundN S.fold.there s.data.toList)).D (S.file (foundN S.fold.there s.data.toList)).A + min x.size (S.room - S.used) ≤ 100000 := Nat.le_trans (Nat.add_le_add_left hm _) hh
    exact append_file hb ha hbu (bx _ _ _ o2 (by decide)) hlv (bx _ _ _ o1 (by decide)) (qj W fun b cs T hb hT => bx b cs T ((b1.block b (Array.getElem?_eq_some_iff.1 hb).1).trans hb) hT) hx k6 k7 (by show S.room ≤ _; omega) (by show S.used ≤ _; omega))
  have HA := Lib.hid (fun S' w' (hW : WentK w1 p v S' w') => WentK.after h b1 hW)
  obtain ⟨ad, n, c, rfl⟩ := hlv
  clear h hs hl hu hst hh b1 o1 o2 qj hne hm hroom hxl ha
  go_enter Tryz.func13, Tryz.ntmps13
  go_wp2_with (go_at_call 50; (with_reducible refine Q.out.mono ?_); rintro e w2 ⟨rfl, hW⟩)
  go_ret
  exact ⟨rfl, HA.out _ _ hW⟩
end Go.Proofs.YtmmoilmfpiclgaaGreat
namespace Go.Proofs.YtmmoilmfpiclgaaGreat
open Go.RowKit Go.Shelf
open Fld (FS Names FAct actsOn foundN foundB findT withT withoutT GoodN Rising mayB nam nameMax FolderS FolderIn ARow textsOf)

set_option maxHeartbeats 2000000 in
set_option maxRecDepth 100000 in
theorem disk_readAt {w : World} {p : Nat} {S : DS} {v : DV} {a n : Int} (h : DiskP w p S v) (s : ByteArray) (hs : s.size ≤ nameMax) (hn : S.fold.n ≤ 100000) (h1 : -9223372036854775808 ≤ n) (h2 : n ≤ 9223372036854775807) (h3 : a ≤ 9223372036854775807) :
    Calls Tryz.prog 23 #[.pointer (some ⟨p, 0, none⟩), .string s, .int .i64 a, .int .i64 n] w fun e w' => e = .returned (.tuple #[.string ⟨(S.readAt s a n).1.toArray⟩, .int .i64 (S.readAt s a n).2]) ∧ w = w' := by
  unfold DS.readAt
  cases hd : S.down with
  | true =>
    have Q := Lib.hid (find_down h s hd)
    clear h
    rw [if_pos rfl]
    go_enter Tryz.func23, Tryz.ntmps23
    go_wp2_with (go_at_call 79; (with_reducible refine Q.out.mono ?_); rintro e w' ⟨rfl, rfl⟩)
    go_ret2
    exact ⟨rfl, rfl⟩
  | false =>
    rw [if_neg Bool.false_ne_true]
    cases hf : foundB S.fold.there s.data.toList with
    | false =>
      have Q := Lib.hid (find_none h s hs hd hf)
      clear h
      rw [if_neg Bool.false_ne_true]
      go_enter Tryz.func23, Tryz.ntmps23
      go_wp2_with (go_at_call 79; (with_reducible refine Q.out.mono ?_); rintro e w' ⟨rfl, rfl⟩)
      go_ret2
      exact ⟨rfl, rfl⟩
    | true =>
      obtain ⟨fv, lv, lost, armed, P, d1, hkn⟩ := h.it
      obtain ⟨b, hb, q⟩ := find_some d1 hkn.1 hn s hs hd h.good.there.rising hf
      have Q := Lib.hid q
      have R := Lib.hid (readAt_any (a := a) (n := n) (d1.files _ b hb).1 h1 h2 h3)
      clear h d1 hkn q hb
      rw [if_pos rfl]
      obtain ⟨t, ht⟩ : ∃ t, (⟨(readT (S.file (foundN S.fold.there s.data.toList)).R a n).toArray⟩ : ByteArray) = t := ⟨_, rfl⟩
      obtain ⟨er, her⟩ : ∃ er, readE (S.file (foundN S.fold.there s.data.toList)).R a n = er := ⟨_, rfl⟩
      have R2 : Hid (Calls Tryz.prog 80 #[.pointer (some ⟨b, 0, none⟩), .int .i64 a, .int .i64 n] w fun e w' => e = .returned (.tuple #[.string t, .int .i64 er]) ∧ w = w') := Lib.hid (by rw [← ht, ← her]; exact R.out)
      clear R
      show Calls _ _ _ _ fun e w' => e = .returned (.tuple #[.string (⟨(readT (S.file (foundN S.fold.there s.data.toList)).R a n).toArray⟩ : ByteArray), .int .i64 (readE (S.file (foundN S.fold.there s.data.toList)).R a n)]) ∧ w = w'
      rw [ht, her]
      clear ht her
      go_enter Tryz.func23, Tryz.ntmps23
      go_wp2_with (first
        | (go_at_call 79; (with_reducible refine Q.out.mono ?_); rintro e w' ⟨rfl, rfl⟩)
        | (go_at_call 80; (with_reducible refine R2.out.mono ?_); rintro e w' ⟨rfl, rfl⟩))
      go_ret2
      exact ⟨rfl, rfl⟩

set_option maxHeartbeats 2000000 in
set_option maxRecDepth 100000 in
theorem disk_size {w : World} {p : Nat} {S : DS} {v : DV} (h : DiskP w p S v) (s : ByteArray) (hs : s.size ≤ nameMax) (hn : S.fold.n ≤ 100000) :
    Calls Tryz.prog 34 #[.pointer (some ⟨p, 0, none⟩), .string s] w fun e w' => e = .returned (.tuple #[.int .i64 ((S.size s).1 : Nat), .int .i64 ((S.size s).2 : Nat)]) ∧ w = w' := by
  unfold DS.size
  cases hd : S.down with
  | true =>
    have Q := Lib.hid (find_down h s hd)
    have L := Lib.hid (nil_len w)
    clear h
    rw [if_pos rfl]
    go_enter Tryz.func34, Tryz.ntmps34
    go_wp2_with (first
      | (go_at_call 79; (with_reducible refine Q.out.mono ?_); rintro e w' ⟨rfl, rfl⟩)
      | (go_at_call 91; (with_reducible refine L.out.mono ?_); rintro e w' ⟨rfl, rfl⟩))
    go_ret2
    exact ⟨rfl, rfl⟩
  | false =>
    rw [if_neg Bool.false_ne_true]
    cases hf : foundB S.fold.there s.data.toList with
    | false =>
      have Q := Lib.hid (find_none h s hs hd hf)
      have L := Lib.hid (nil_len w)
      clear h
      rw [if_neg Bool.false_ne_true]
      go_enter Tryz.func34, Tryz.ntmps34
      go_wp2_with (first
        | (go_at_call 79; (with_reducible refine Q.out.mono ?_); rintro e w' ⟨rfl, rfl⟩)
        | (go_at_call 91; (with_reducible refine L.out.mono ?_); rintro e w' ⟨rfl, rfl⟩))
      go_ret2
      exact ⟨rfl, rfl⟩
    | true =>
      obtain ⟨fv, lv, lost, armed, P, d1, hkn⟩ := h.it
      obtain ⟨b, hb, q⟩ := find_some d1 hkn.1 hn s hs hd h.good.there.rising hf
      have Q := Lib.hid q
      have L := Lib.hid (len_any (d1.files _ b hb).1)
      clear h d1 hkn q hb
      rw [if_pos rfl]
      show Calls _ _ _ _ fun e w' => e = .returned (.tuple #[.int .i64 ((reads (S.file (foundN S.fold.there s.data.toList)).D (S.file (foundN S.fold.there s.data.toList)).A).length : Nat), .int .i64 ((0 : Nat) : Int)]) ∧ w = w'
      obtain ⟨l, hl⟩ : ∃ l, (reads (S.file (foundN S.fold.there s.data.toList)).D (S.file (foundN S.fold.there s.data.toList)).A).length = l := ⟨_, rfl⟩
      rw [hl] at L ⊢
      clear hl
      go_enter Tryz.func34, Tryz.ntmps34
      go_wp2_with (first
        | (go_at_call 79; (with_reducible refine Q.out.mono ?_); rintro e w' ⟨rfl, rfl⟩)
        | (go_at_call 91; (with_reducible refine L.out.mono ?_); rintro e w' ⟨rfl, rfl⟩))
      go_ret2
      exact ⟨rfl, rfl⟩

/-- The names that are listed. -/
def DS.listed (S : DS) : List ByteArray := if S.down = true then [] else textsOf S.fold.there

set_option maxHeartbeats 2000000 in
set_option maxRecDepth 100000 in
theorem disk_list {w : World} {p : Nat} {S : DS} {v : DV} (h : DiskP w p S v) (hl : S.fold.weight ≤ 90000) :
    Calls Tryz.prog 33 #[.pointer (some ⟨p, 0, none⟩)] w fun e w' => ∃ r, e = .returned r ∧ w'.ownsRow w.heap.size 9 1 r S.listed.length (S.listed.map Value.string) ∧ Below w.heap.size w w' := by
  have Q := Lib.hid (down_any h)
  unfold DS.listed
  cases hd : S.down with
  | true =>
    rw [hd] at Q
    clear h
    rw [if_pos rfl]
    go_enter Tryz.func33, Tryz.ntmps33
    go_wp2_with (go_at_call 32; (with_reducible refine Q.out.mono ?_); rintro e w' ⟨rfl, rfl⟩)
    go_ret
    exact ⟨_, rfl, World.ownsRow_nil _ _ _ _, Below.refl _ _⟩
  | false =>
    rw [hd] at Q
    obtain ⟨fv, lv, lost, armed, P, d1, hkn⟩ := h.it
    have R := Lib.hid (@Fld.names_any (fin _) _ _ _ _ _ _ _ d1.fold hl)
    clear h d1 hkn
    rw [if_neg Bool.false_ne_true]
    go_enter Tryz.func33, Tryz.ntmps33
    go_wp2_with (first
      | (go_at_call 32; (with_reducible refine Q.out.mono ?_); rintro e w' ⟨rfl, rfl⟩)
      | (go_at_call 90; (with_reducible refine R.out.mono ?_); rintro e w' ⟨r, rfl, h1, h2⟩))
    go_ret
    exact ⟨_, rfl, h1, h2⟩

theorem nil_disk_neq (w : World) (p : Nat) : (binOp .neq 27 (.pointer (some ⟨p, 0, none⟩)) (.pointer none)).run Tryz.prog w = .ok (.bool true) w := by kernel_rfl

set_option maxHeartbeats 2000000 in
set_option maxRecDepth 100000 in
theorem arm_walk {w : World} {p : Nat} {n : Int} {cs : Array Value} (hp : w.heap[p]? = some (.cells cs 77 (0, 0))) (m : Nat) (hm : max n 0 = (m : Int)) (c9 : ∃ x, cs[9]? = some x) :
    Calls Tryz.prog 31 #[.pointer (some ⟨p, 0, none⟩), .int .i64 n] w fun e w' => e = .returned (.tuple #[]) ∧ w' = w.setCell ⟨p, 9, none⟩ (.int .i64 (m : Int)) := by
  obtain ⟨x, c9⟩ := c9
  have k9 : w.cell? ⟨p, 9, none⟩ = some x := by rw [cell_of_row w p 9 _ _ _ hp]; exact c9
  have f9 := free_of hp 9
  have hpl := (Array.getElem?_eq_some_iff.1 hp).1
  have ne := nil_disk_neq w p
  clear hp c9
  go_enter Tryz.func31, Tryz.ntmps31
  go_wp2
  exact bodyPost_end (v := .tuple #[]) (by simp [results, Tryz.results31, go_sem]) rfl ⟨rfl, rfl⟩

theorem disk_arm {w : World} {p : Nat} {S : DS} {v : DV} {n : Int} (h : DiskP w p S v) (hn : n ≤ 1000000) :
    Calls Tryz.prog 31 #[.pointer (some ⟨p, 0, none⟩), .int .i64 n] w fun e w' => e = .returned (.tuple #[]) ∧ WentK w p v (S.arm n) w' := by
  obtain ⟨fv, lv, lost, armed, P, d1, hkn⟩ := h.it
  obtain ⟨a, b, c, d, h1, _⟩ := four_of d1.fold
  refine (arm_walk h1 n.toNat (by omega) ⟨_, rfl⟩).mono ?_
  rintro e w' ⟨rfl, rfl⟩
  obtain ⟨c1, c2, c3⟩ := d1.number (S' := S.arm n) h.parts 5 (.int .i64 ((n.toNat : Nat) : Int)) (armed' := n.toNat) (u' := S.used) rfl rfl rfl (fun _ => rfl) (by omega)
  exact ⟨rfl, v, ⟨⟨_, _, _, _, _, c1, hkn⟩, h.good, c2, h.room⟩, c3⟩

set_option maxHeartbeats 2000000 in
set_option maxRecDepth 100000 in
theorem new_none (w : World) {n : Int} (hn : n < 0) : Calls Tryz.prog 9 #[.int .i64 n] w fun e w' => e = .returned (.pointer none) ∧ w = w' := by
  go_enter Tryz.func9, Tryz.ntmps9
  go_wp2
  go_ret
  exact ⟨rfl, rfl⟩

set_option maxHeartbeats 2000000 in
set_option maxRecDepth 100000 in
theorem new_walk (w : World) (q : Nat) : Calls Tryz.prog 9 #[.int .i64 (q : Int)] w fun e w' => e = .returned (.pointer (some ⟨w.heap.size, 0, none⟩)) ∧
    w' = w.alloc (.cells #[.map none, .slice none 0 0, .map none, .int .i64 0, .map none, .slice none 0 0, .int .i64 (q : Int), .int .i64 0, .int .i64 0, .int .i64 0, .bool false] 77) := by
  go_enter Tryz.func9, Tryz.ntmps9
  go_wp2
  go_ret
  exact ⟨rfl, rfl⟩
end Go.Proofs.YtmmoilmfpiclgaaGreat
namespace Go.Proofs.YtmmoilmfpiclgaaGreat
open Go.RowKit Go.Shelf
open Fld (FS Names FAct actsOn foundN foundB findT withT withoutT GoodN Rising mayB nam nameMax FolderS FolderIn ARow textsOf)

attribute [local go_sem] Oper.semAt_some
attribute [local instance] Fld.alone

theorem disk_new (w : World) (q : Nat) (hq : q ≤ 1000000000000) : Calls Tryz.prog 9 #[.int .i64 (q : Int)] w fun e w' => ∃ p v, e = .returned (.pointer (some ⟨p, 0, none⟩)) ∧ DiskP w' p (DS.new q) v ∧ (∀ g, All v.M g ∨ All v.I g → w.heap.size ≤ g) ∧ Below w.heap.size w w' := by
  refine (new_walk w q).mono ?_
  rintro e w' ⟨rfl, rfl⟩
  have hn := heap_alloc_new w (.cells #[.map none, .slice none 0 0, .map none, .int .i64 0, .map none, .slice none 0 0, .int .i64 (q : Int), .int .i64 0, .int .i64 0, .int .i64 0, .bool false] 77)
  refine ⟨w.heap.size, ⟨.slice none 0 0, [], fun k g => k = 0 ∧ g = w.heap.size, fun _ _ => False⟩, rfl, ⟨⟨.map none, .slice none 0 0, [], 0, fun _ => none, ⟨?_, fun _ => rfl, Nat.zero_le _, .inl ⟨rfl, rfl⟩, (fun b hb => by cases hb), World.ownsRow_nil _ _ _ _, (fun b hb => by cases hb), (fun n b hb => by cases hb)⟩, known_new _, (fun x hx => by cases hx), Nat.zero_le _⟩, Fld.good_new, ⟨?_, ?_, fun _ _ _ h => h.elim⟩, hq⟩, ?_, below_alloc' (Below.refl _ w)⟩
  · refine @FolderIn.mk (fin _) _ _ _ _ _ _ _ _ _ ⟨.map none, .map none, hn, .inl ⟨rfl, rfl⟩, .inl ⟨rfl, rfl⟩, ⟨rfl, rfl⟩, (fun b hb => by cases hb), (fun b hb => by cases hb), fun _ => rfl⟩ (.inl ⟨rfl, rfl⟩) ⟨rfl, fun k hk => absurd hk (Nat.not_lt_zero _)⟩ (fun b hb => by cases hb) (fun x hx => by cases hx) ⟨Nat.zero_le _, Nat.zero_le _⟩ (fun g hg => ?_) (fun _ h => h.elim)
    rcases hg with ⟨_, rfl⟩ | hg
    · simp
    · exact hg.elim
  · rintro k g (⟨_, rfl⟩ | hg)
    · simp
    · exact hg.elim
  · rintro k l g hkl ⟨rfl, rfl⟩ ⟨h, _⟩
    exact hkl h.symm
  · rintro g (⟨k, _, rfl⟩ | ⟨k, hg⟩)
    · exact Nat.le_refl _
    · exact hg.elim

set_option maxHeartbeats 1000000 in
set_option maxRecDepth 100000 in
theorem there_any (w : World) (p : Nat) : Calls Tryz.prog 57 #[.pointer (some ⟨p, 0, none⟩)] w fun e w' => ∃ bd, e = .returned (.func (.func 116) #[] #[.pointer (some ⟨bd, 0, none⟩)]) ∧
      w'.heap[bd]? = some (.cells #[.pointer (some ⟨p, 0, none⟩)] 27 (0, 0)) ∧ w.heap.size ≤ bd ∧ Below w.heap.size w w' := by
  go_enter Tryz.func57, Tryz.ntmps57
  go_wp2
  go_ret
  exact ⟨_, rfl, World.alloc_heap_new w _, Nat.le_refl _, (Below.refl _ w).alloc (Nat.le_refl _) _⟩

/-- What a walk over the names asks of the folder. -/
structure Tells (W : World) (p : Nat) (F : FS) : Prop where
  names : Calls Tryz.prog 90 #[.pointer (some ⟨p, 0, none⟩)] W fun e w' => ∃ v, e = .returned v ∧ w'.ownsRow W.heap.size 9 1 v (textsOf F.there).length ((textsOf F.there).map Value.string) ∧ Below W.heap.size W w'
  find : ∀ t : ByteArray, t.size ≤ nameMax → Calls Tryz.prog 83 #[.pointer (some ⟨p, 0, none⟩), .string t] W fun e w' => e = .returned (.tuple #[.int .i64 (foundN F.there t.data.toList : Nat), .bool (foundB F.there t.data.toList)]) ∧ W = w'
theorem DiskIn.tells {w : World} {p u : Nat} {S : DS} {v : DV} {fv lv : Value} {lost : List Nat} {armed : Nat} {P : Nat → Option Nat} (h : DiskIn w p S u v fv lv lost armed P) (hl : S.fold.weight ≤ 90000) : Tells w p S.fold :=
  ⟨@Fld.names_any (fin _) _ _ _ _ _ _ _ h.fold hl, fun t ht => fold_find h t ht⟩

theorem row_text {w : World} {base : Nat} {lv : Value} {T : Names} (h : w.ownsRow base 9 1 lv (textsOf T).length ((textsOf T).map Value.string)) {ad : Option Addr} {m c : Nat} (hlv : lv = .slice ad m c) : ∀ k, k < T.length → ∃ b o, ad = some ⟨b, o, none⟩ ∧ base ≤ b ∧ lv.ownBlock = some b ∧ w.cell? ⟨b, o + k, none⟩ = some (.string (Fld.strO (nam T k).1)) := fun k hk => by
  rcases h.2 with ⟨rfl, h0⟩ | ⟨g, cap, cur, rfl, hbg, hg, h4, h5, h6, ht⟩
  · rw [Fld.textsOf_length] at h0; omega
  · cases hlv
    refine ⟨g, 0, rfl, hbg, rfl, ?_⟩
    rw [Nat.zero_add, cell_of_row w g k cur 9 (0, 0) hg, ← Array.getElem?_toList]
    have hx : ((textsOf T).map Value.string)[k]? = some (.string (Fld.strO (nam T k).1)) := by
      rw [Fld.nam_lt hk]
      simp [textsOf, hk]
    rw [← ht, List.getElem?_take] at hx
    split at hx
    · exact hx
    · cases hx
theorem owns_keeps {X : Nat → Prop} {w w' : World} {base size n : Nat} {e : TypeId} {v : Value} {xs : List Value} (h : w.ownsRow base e size v n xs) (k : KeepsX X w w') (hx : ∀ g, v.ownBlock = some g → ¬ X g) : w'.ownsRow base e size v n xs := owns_same h fun g hg => by
  rcases h.2 with ⟨rfl, h0⟩ | ⟨g', cap, cur, rfl, hbg, hg', _⟩
  · cases hg
  · cases hg
    rw [k _ _ _ _ hg' (hx _ rfl), hg']
theorem found_mem {L : Names} (hr : Rising L) {k : List UInt8} {n : Nat} (h : (k, n) ∈ L) : foundB L k = true ∧ foundN L k = n := by
  have := (Fld.find_some hr).2 h
  unfold foundB foundN
  rw [this]
  exact ⟨rfl, rfl⟩

set_option maxRecDepth 100000 in
set_option maxHeartbeats 4000000 in
theorem there1_in {σ : Type} (n : Nat) (hn : 1 ≤ n) (l : Nat) {p bd : Nat} {F : FS} (idx : σ → Nat) (foot : σ → Nat → Prop) (J : σ → World → Prop) (Jx : World → Prop) (W : World) {s0 : σ} (hg : F.good) (hwt : F.weight ≤ 90000)
    (hJ : ∀ s, Bides W.heap.size (foot s) (J s)) (hm : ∀ s W, J s W → Tells W p F) (hf0 : ∀ g, foot s0 g → g < W.heap.size) (hbd : W.heap[bd]? = some (.cells #[.pointer (some ⟨p, 0, none⟩)] 27 (0, 0))) (hnb : ¬ foot s0 bd)
    (hY : ∀ s W1, idx s < F.there.length → J s W1 → YieldAt Fence.wide (n - 1) Tryz.prog l #[.string (Fld.strO (nam F.there (idx s)).1), .int .i64 ((nam F.there (idx s)).2 : Nat)] W1 fun e W' => (e = .returned (.bool true) ∧ (∃ s', idx s' = idx s + 1 ∧ (∀ g, foot s' g → foot s g ∨ W1.heap.size ≤ g) ∧ J s' W') ∧ W1.heap.size ≤ W'.heap.size ∧ KeepsX (foot s) W1 W') ∨ (e = .returned (.bool false) ∧ Jx W'))
    (h0 : J s0 W) (hi0 : idx s0 = 0) :
    CallsIn Fence.wide n Tryz.prog 116 #[.func (.yield l) #[] #[], .pointer (some ⟨bd, 0, none⟩)] W fun e W' => (∃ v, e = .returned v) ∧ ((∃ s, idx s = F.there.length ∧ J s W') ∨ Jx W') := by
  refine callsIn_of_wp Tryz.func116 rfl trivial ?_ rfl
  simp only [Tryz.ntmps116, List.size_toArray, List.length_cons, List.length_nil, Nat.reduceAdd, Nat.reduceSub, Array.replicate_succ, Array.replicate_zero, List.push_toArray, List.append_toArray, List.nil_append, List.cons_append]
  have kd : W.cell? ⟨bd, 0, none⟩ = some (.pointer (some ⟨p, 0, none⟩)) := by rw [cell_of_row W bd 0 _ _ _ hbd]; rfl
  have QN := Lib.hid (callsIn_wide (n := n - 1) |>.2 (hm s0 W h0).names)
  have hTl : F.there.length ≤ 90000 := Nat.le_trans (Fld.FS.there_length F) hwt
  gi_wp2_with (refine ⟨trivial, ?_⟩; gi_at_call 90; go_loud (refine QN.out.mono ?_; rintro e w1 ⟨v, rfl, hrow, hb⟩; obtain ⟨ad, c, hlv⟩ := ownsSlice hrow; rw [Fld.textsOf_length] at hlv; subst hlv))
  have hJ1 : J s0 w1 := hJ s0 W w1 none h0 ⟨hb.os, hb.tape, hb.output, hb.size, fun k hk _ => hb.block k hk⟩ (fun r e => by cases e)
  have hbd1 := (hb.block bd (Array.getElem?_eq_some_iff.1 hbd).1).trans hbd
  have HR := Lib.hid hrow
  have HB := Lib.hid hb
  have hsz := hb.size
  have hbdl := (Array.getElem?_eq_some_iff.1 hbd).1
  clear hrow QN kd hb
  gi_loopw [12] (fun s12 wr => ∃ s : σ, idx s ≤ F.there.length ∧ s12 = .int .i64 (idx s : Nat) ∧ J s wr ∧ w1.heap.size ≤ wr.heap.size ∧ wr.heap[bd]? = some (.cells #[.pointer (some ⟨p, 0, none⟩)] 27 (0, 0)) ∧ wr.ownsRow W.heap.size 9 1 (.slice ad F.there.length c) (textsOf F.there).length ((textsOf F.there).map Value.string) ∧ (∀ g, foot s g → (g < W.heap.size ∧ g ≠ bd) ∨ w1.heap.size ≤ g)) (fun s12 _ => F.there.length - (intOf s12).toNat)
  case atStart =>
    exact ⟨s0, by omega, by rw [hi0]; rfl, hJ1, Nat.le_refl _, hbd1, HR.out, fun g hg => .inl ⟨hf0 g hg, fun e => hnb (e ▸ hg)⟩⟩
  case round =>
    obtain ⟨s, hk, rfl, hj, hwz, hbr, hrw, hft⟩ := hrel
    have kd : wr.cell? ⟨bd, 0, none⟩ = some (.pointer (some ⟨p, 0, none⟩)) := by rw [cell_of_row wr bd 0 _ _ _ hbr]; rfl
    obtain ⟨k, hki⟩ : ∃ k, idx s = k := ⟨_, rfl⟩
    have hy0 := hY s wr
    rw [hki] at hk hy0 ⊢
    by_cases hlt : k < F.there.length
    · have e1 : decide ((k : Int) < (F.there.length : Int)) = true := decide_eq_true (by omega)
      have e1' : decide (k < F.there.length) = true := decide_eq_true hlt
      obtain ⟨b, o, hbo, hbb, hown, hc⟩ := row_text hrw rfl k hlt
      have hmem : ((nam F.there k).1, (nam F.there k).2) ∈ F.there := Fld.nam_mem hlt
      obtain ⟨q1, q2⟩ := found_mem hg.there.rising hmem
      have hts : (Fld.strO (nam F.there k).1).size ≤ nameMax := by
        rw [Fld.strO_size]
        have := hg.there.short _ hmem
        simp only at this
        unfold nameMax
        omega
      have QF := (hm s wr hj).find _ hts
      rw [Fld.strO_data, q1, q2] at QF
      have HY := hy0 hlt hj
      obtain ⟨t, ht⟩ : ∃ t, Fld.strO (nam F.there k).1 = t := ⟨_, rfl⟩
      obtain ⟨x, hx⟩ : ∃ x, (nam F.there k).2 = x := ⟨_, rfl⟩
      rw [ht, hx] at HY
      rw [ht, hx] at QF
      rw [ht] at hc
      obtain ⟨fn, tmps, assign, body, hy, hR⟩ := HY
      have HQF := Lib.hid (callsIn_wide (n := n - 1) |>.2 QF)
      have HFT := Lib.hid hft
      have HRW := Lib.hid hrw
      have HS := Lib.hid hki
      clear QF hts hmem q1 q2 ht hx hy0 hft hrw hki hY
      subst hbo
      gi_wp2_with (refine ⟨trivial, ?_⟩; gi_at_call 83; go_loud (refine HQF.out.mono ?_; rintro e w' ⟨rfl, rfl⟩))
      refine hR.mono ?_
      rintro e W3 (⟨rfl, ⟨s', hs', hfs, hj'⟩, hz3, hk3⟩ | ⟨rfl, hjx⟩)
      · have hown3 := owns_keeps HRW.out hk3 (fun g hg hf => by
          cases hg
          have hf' : foot s b := hf
          rcases HFT.out _ hf' with ⟨h1, _⟩ | h1
          · omega
          · have hb1 : b < w1.heap.size := (HR.out.lt b rfl).2
            omega)
        have hbd3 := hk3 _ _ _ _ hbr (fun hf => by
          rcases HFT.out _ hf with ⟨_, h1⟩ | h1
          · exact h1 rfl
          · omega)
        have hft3 : ∀ g, foot s' g → (g < W.heap.size ∧ g ≠ bd) ∨ w1.heap.size ≤ g := fun g hg => by
          rcases hfs g hg with h1 | h1
          · exact HFT.out g h1
          · exact .inr (by omega)
        have H3 := Lib.hid hown3
        have F3 := Lib.hid hft3
        clear hy hR hown3 hft3 hfs hk3
        gi_wp2
        exact ⟨⟨s', by omega, by rw [hs']; go_num, hj', by omega, hbd3, H3.out, F3.out⟩, by simp [intOf]; omega⟩
      · clear hy hR
        gi_wp2
        refine bodyPost_ret (results_none rfl _ _ _) rfl ?_
        exact ⟨⟨_, rfl⟩, .inr hjx⟩
    · have e1 : decide ((k : Int) < (F.there.length : Int)) = false := decide_eq_false (by omega)
      have e1' : decide (k < F.there.length) = false := decide_eq_false hlt
      have hkl : k = F.there.length := by omega
      clear hy0 hY
      gi_wp2
      refine bodyPost_end (v := .tuple #[]) (by simp [results, Tryz.results116, go_sem]) rfl ?_
      exact ⟨⟨_, rfl⟩, .inl ⟨s, by omega, hj⟩⟩

/-- The iterator's contract. -/
theorem there_iter {σ : Type} (n : Nat) (hn : 1 ≤ n) {p bd : Nat} {F : FS} (idx : σ → Nat) (foot : σ → Nat → Prop) (w : World) {s0 : σ} (hg : F.good) (hwt : F.weight ≤ 90000)
    (hbd : w.heap[bd]? = some (.cells #[.pointer (some ⟨p, 0, none⟩)] 27 (0, 0))) (hnb : ¬ foot s0 bd) (hi0 : idx s0 = 0) :
    IterFoot n Tryz.prog 116 #[.pointer (some ⟨bd, 0, none⟩)] (fun s : σ => #[.string (Fld.strO (nam F.there (idx s)).1), .int .i64 ((nam F.there (idx s)).2 : Nat)]) foot (fun s s' => idx s' = idx s + 1) (fun s => F.there.length ≤ idx s) s0
      (fun J => ∀ s W, J s W → Tells W p F) w := by
  intro l J Jx W hW hJ hm hf0 hY h0
  refine (there1_in n hn l idx foot J Jx W hg hwt hJ hm hf0 ((hW.block bd (Array.getElem?_eq_some_iff.1 hbd).1).trans hbd) hnb (fun s W1 hlt hj => hY s W1 (by omega) hj) h0 hi0).mono fun e W' ⟨k1, k2⟩ => ⟨k1, ?_⟩
  exact k2.imp (fun ⟨s, hs, hj⟩ => ⟨s, by omega, hj⟩) id
end Go.Proofs.YtmmoilmfpiclgaaGreat
namespace Go.Proofs.YtmmoilmfpiclgaaGreat
open Go.RowKit Go.Shelf
open Fld (FS Names FAct actsOn foundN foundB findT withT withoutT GoodN Rising mayB nam nameMax FolderS FolderIn ARow textsOf)

/-- A row of numbers that is read one by one. -/
def Row16 (W : World) (v : Value) (l : List Nat) : Prop := ∃ ad c, v = .slice ad l.length c ∧ ∀ i, i < l.length → ∃ b o, ad = some ⟨b, o, none⟩ ∧ W.cell? ⟨b, o + i, none⟩ = some (.int .u16 ((l.getD i 0 : Nat) : Int)) ∧ l.getD i 0 ≤ 65535

theorem store_func (w : World) (a : Addr) (fn : Fn) (lb caps : Array Value) : (store a (.func fn lb caps)).run Tryz.prog w = stored Tryz.prog w a (.func fn lb caps) .plain := run_store Tryz.prog w a _ _ rfl

set_option maxHeartbeats 1000000 in
set_option maxRecDepth 100000 in
theorem read_any (w : World) (ad : Option Addr) (n c : Nat) : Calls Tryz.prog 55 #[.slice ad n c] w fun e w' => ∃ ba bl, e = .returned (.agg #[.func (.func 115) #[] #[.pointer (some ⟨ba, 0, none⟩), .pointer (some ⟨bl, 0, none⟩)]]) ∧ Boxed w' ba 3 (.int .i64 0) ∧ Boxed w' bl 33 (.slice ad n c) ∧
      w.heap.size ≤ ba ∧ w.heap.size ≤ bl ∧ Below w.heap.size w w' := by
  have hsf := store_func (((w.alloc (.cells #[.slice ad n c] 33)).alloc (.cells #[.nilFunc] 100)).alloc (.cells #[.int .i64 0] 3)) ⟨w.heap.size + 1, 0, none⟩ (.func 115) #[] #[.pointer (some ⟨w.heap.size + 1 + 1, 0, none⟩), .pointer (some ⟨w.heap.size, 0, none⟩)]
  go_enter Tryz.func55, Tryz.ntmps55
  go_wp2
  clear hsf
  obtain ⟨o1, o2, o3⟩ := heap_three w (.cells #[.slice ad n c] 33) (.cells #[.func (.func 115) #[] #[.pointer (some ⟨w.heap.size + 1 + 1, 0, none⟩), .pointer (some ⟨w.heap.size, 0, none⟩)]] 100) (.cells #[.int .i64 0] 3)
  have hb := below_three w (.cells #[.slice ad n c] 33) (.cells #[.func (.func 115) #[] #[.pointer (some ⟨w.heap.size + 1 + 1, 0, none⟩), .pointer (some ⟨w.heap.size, 0, none⟩)]] 100) (.cells #[.int .i64 0] 3)
  obtain ⟨w3, hw3⟩ : ∃ w3, ((w.alloc (.cells #[.slice ad n c] 33)).alloc (.cells #[.func (.func 115) #[] #[.pointer (some ⟨w.heap.size + 1 + 1, 0, none⟩), .pointer (some ⟨w.heap.size, 0, none⟩)]] 100)).alloc (.cells #[.int .i64 0] 3) = w3 := ⟨_, rfl⟩
  rw [hw3] at o1 o2 o3 hb ⊢
  have k1 : w3.cell? ⟨w.heap.size + 1, 0, none⟩ = some (.func (.func 115) #[] #[.pointer (some ⟨w.heap.size + 1 + 1, 0, none⟩), .pointer (some ⟨w.heap.size, 0, none⟩)]) := by rw [cell_of_row w3 _ 0 _ _ _ o2]; rfl
  exact bodyPost_ret (v := .agg #[.func (.func 115) #[] #[.pointer (some ⟨w.heap.size + 1 + 1, 0, none⟩), .pointer (some ⟨w.heap.size, 0, none⟩)]]) (by simp [results, Tryz.results55, go_sem, k1]) rfl ⟨_, _, rfl, o3, o1, by omega, Nat.le_refl _, hb⟩

set_option maxHeartbeats 1000000 in
set_option maxRecDepth 100000 in
theorem next_any {w : World} {ba bl a : Nat} {lv : Value} {l : List Nat} (ha : Boxed w ba 3 (.int .i64 (a : Int))) (hl : Boxed w bl 33 lv) (hr : Row16 w lv l) (hal : a ≤ l.length) (hll : l.length ≤ 9223372036854775806) (hne : ∀ ad n c b o, lv = .slice ad n c → ad = some ⟨b, o, none⟩ → n ≠ 0 → b ≠ ba) :
    Calls Tryz.prog 115 #[.pointer (some ⟨ba, 0, none⟩), .pointer (some ⟨bl, 0, none⟩)] w fun e w' => e = .returned (.int .i64 ((num l a : Nat) : Int)) ∧ Boxed w' ba 3 (.int .i64 ((min (a + 1) l.length : Nat) : Int)) ∧ w.grownBy w' (some ba) := by
  obtain ⟨ad, c, rfl, hc⟩ := hr
  have k0 := ha.cell
  have f0 := ha.frozen
  have k1 := hl.cell
  have hba := ha.lt
  have hbb : ba ≠ bl := Fld.two_types ha hl (by decide)
  by_cases hlt : a < l.length
  · obtain ⟨b, o, rfl, hcell, h16⟩ := hc a hlt
    have hb := hne _ _ _ b o rfl rfl (by omega)
    have e1 : ((a : Int) == (l.length : Int)) = false := by simp; omega
    have s1 : wrap64 ((a : Int) + 1) = (a : Int) + 1 := by unfold wrap64; omega
    have hmin : min (a + 1) l.length = a + 1 := by omega
    rw [hmin]
    have hn : num l a = l.getD a 0 := rfl
    rw [hn]
    obtain ⟨x, hx⟩ : ∃ x, l.getD a 0 = x := ⟨_, rfl⟩
    rw [hx] at hcell h16 ⊢
    obtain ⟨w1, hw1⟩ : ∃ w1, w.setCell ⟨ba, 0, none⟩ (.int .i64 ((a : Int) + 1)) = w1 := ⟨_, rfl⟩
    have g1 : w.grownBy w1 (some ba) := by rw [← hw1]; exact grownBy_setCell' w ba _
    have x1 : Boxed w1 ba 3 (.int .i64 ((a : Int) + 1)) := by rw [← hw1]; exact ha.set _
    have k1' : w1.cell? ⟨bl, 0, none⟩ = some (.slice (some ⟨b, o, none⟩) l.length c) := ((hl.kept g1 (fun e => hbb (Option.some.inj e).symm)) : Boxed w1 bl _ _).cell
    have kx := x1.cell
    have hcell' : w1.cell? ⟨b, o + a, none⟩ = some (.int .u16 (x : Int)) := (World.cell?_of_block (a := ⟨b, o + a, none⟩) (g1.block b (block_lt_of_cell hcell) (fun e => hb (Option.some.inj e)))).trans hcell
    clear hc hn hx ha hl
    go_enter Tryz.func115, Tryz.ntmps115
    go_wp2
    go_ret
    exact ⟨rfl, x1, g1⟩
  · obtain rfl : a = l.length := by omega
    have e1 : ((l.length : Int) == (l.length : Int)) = true := by simp
    have hn : num l l.length = 0 := by unfold num; simp
    have hmin : min (l.length + 1) l.length = l.length := by omega
    rw [hn, hmin]
    have HA := Lib.hid ha
    clear hc hn ha hl
    go_enter Tryz.func115, Tryz.ntmps115
    go_wp2
    go_ret
    exact ⟨rfl, HA.out, rfl, rfl, rfl, Nat.le_refl _, fun _ _ _ => rfl⟩

/-- Another file's blocks turn: it is not in the map. -/
theorem DiskIn.filedOut {w w' : World} {p u : Nat} {S : DS} {v : DV} {fv lv : Value} {lost : List Nat} {armed : Nat} {P : Nat → Option Nat} (h : DiskIn w p S u v fv lv lost armed P) (hp : Parts w v.M v.I) {n b : Nat} (hn : P n = none) {D' : List UInt8} {A' : List Do} {M' I' : Nat → Prop}
    (h1 : FileAt w' b D' A' M' I') (h2 : ∀ g, M' g → v.M (n + 3) g ∨ w.heap.size ≤ g) (h3 : ∀ g, I' g → v.I (n + 3) g ∨ w.heap.size ≤ g) (h4 : Kept (v.M (n + 3)) w w') :
    ∃ v', DiskIn w' p { S with file := upd S.file n ⟨D', A'⟩ } u v' fv lv lost armed P ∧ Parts w' v'.M v'.I ∧ v.To w w' v' ∧ v'.M (n + 3) = M' ∧ v'.I (n + 3) = I' ∧ ∀ l, l ≠ n + 3 → v'.M l = v.M l ∧ v'.I l = v.I l := by
  have pin : Parts w' (pput v.M (n + 3) M') (pput v.I (n + 3) I') := hp.step (n + 3) h4.size h2 h3 h1.mem h1.apart
  have same : ∀ k g, k ≠ n + 3 → v.M k g ∨ v.I k g → w'.heap[g]? = w.heap[g]? := fun k g hk' hg => hp.kept h4 hk' g hg
  have o1 : ∀ k, k ≠ n + 3 → pput v.M (n + 3) M' k = v.M k := fun k hk' => pput_other _ _ hk'
  have o2 : ∀ k, k ≠ n + 3 → pput v.I (n + 3) I' k = v.I k := fun k hk' => pput_other _ _ hk'
  refine ⟨⟨v.av, v.fs, pput v.M (n + 3) M', pput v.I (n + 3) I'⟩, ⟨?_, h.arm, h.armLe, h.map.same fun b hb => same 1 b (by omega) (.inl (h.mapM b hb)), ?_, owns_same h.row fun g hg' => same 2 g (by omega) (.inl (h.rowM g hg')), ?_, fun m c hP => ?_⟩, pin, ?_, pput_same _ _ _, pput_same _ _ _, fun l hl => ⟨o1 l hl, o2 l hl⟩⟩
  · simp only [o1 0 (by omega), o2 0 (by omega)]
    exact @FolderIn.same (fin _) _ _ _ _ _ _ _ _ _ _ h.fold (fun g hg => same 0 g (by omega) hg) h4.size
  · simp only [o1 1 (by omega)]
    exact h.mapM
  · simp only [o1 2 (by omega)]
    exact h.rowM
  · have e : m ≠ n := fun e => by subst e; rw [hn] at hP; cases hP
    simp only [o1 (m + 3) (by omega), o2 (m + 3) (by omega), upd_other _ _ e]
    obtain ⟨q1, q2⟩ := h.files m c hP
    exact ⟨q1.same (fun g hg' => same (m + 3) g (by omega) hg') h4.size, q2⟩
  · exact h.to_same rfl rfl (all_pput h2) (all_pput h3) h4.all fun g hg => same 0 g (by omega) (h.rowIn g hg)

/-- Where nothing of the disk's turns. -/
theorem DiskIn.still {w w' : World} {p u : Nat} {S : DS} {v : DV} {fv lv : Value} {lost : List Nat} {armed : Nat} {P : Nat → Option Nat} (h : DiskIn w p S u v fv lv lost armed P) (hp : Parts w v.M v.I) {row : Option Nat} (hg : w.grownBy w' row) (hr : ∀ r, row = some r → ¬ All v.M r ∧ ¬ All v.I r) :
    DiskIn w' p S u v fv lv lost armed P ∧ Parts w' v.M v.I := by
  have same : ∀ k g, v.M k g ∨ v.I k g → w'.heap[g]? = w.heap[g]? := fun k g hg' => hg.block g (hp.mem k g hg') fun e => by
    obtain ⟨h1, h2⟩ := hr g e.symm
    exact hg'.elim (fun h => h1 ⟨k, h⟩) (fun h => h2 ⟨k, h⟩)
  refine ⟨{ h with
    fold := @FolderIn.same (fin _) _ _ _ _ _ _ _ _ _ _ h.fold (fun g hg => same 0 g hg) hg.size
    map := h.map.same fun b hb' => same 1 b (.inl (h.mapM b hb'))
    row := owns_same h.row fun g hg => same 2 g (.inl (h.rowM g hg))
    files := fun n b hn => ⟨(h.files n b hn).1.same (fun g hg' => same (n + 3) g hg') hg.size, (h.files n b hn).2⟩ }, hp.grow hg.size⟩
theorem DV.To.still {w W1 W2 : World} {v v1 : DV} (t : v.To w W1 v1) (hr : ∀ b, v.av.ownBlock = some b → b < w.heap.size) {row : Option Nat} (hg : W1.grownBy W2 row) (hrow : ∀ r, row = some r → w.heap.size ≤ r) : v.To w W2 v1 := by
  have same : ∀ g, g < w.heap.size → W2.heap[g]? = W1.heap[g]? := fun g hlt => hg.block g (Nat.lt_of_lt_of_le hlt t.kept.size) fun e => by
    have := hrow g e.symm
    omega
  refine ⟨t.m, t.i, ⟨hg.os.trans t.kept.os, hg.tape.trans t.kept.tape, hg.output.trans t.kept.output, Nat.le_trans t.kept.size hg.size, fun g hlt hn => (same g hlt).trans (t.kept.block g hlt hn)⟩, fun b m hb hm => ?_⟩
  obtain ⟨a1, a2⟩ := t.rows b m hb hm
  exact ⟨a1.same fun g hg' => by cases hg'; exact same b (hr b hb), a2⟩

/-- A file that the map lacks is put into it; no other part turns. -/
theorem put_part {w : World} {p u n b : Nat} {S : DS} {v : DV} {fv lv : Value} {lost : List Nat} {armed : Nat} {P : Nat → Option Nat} (h : DiskIn w p S u v fv lv lost armed P) (hp : Parts w v.M v.I) (hP : P n = none) (hN : S.fold.n ≤ 100000) (h1 : 1 ≤ n) (h2 : n ≤ S.fold.n)
    (hf : FileAt w b (S.file n).D (S.file n).A (v.M (n + 3)) (v.I (n + 3))) (hu : u + (S.file n).R.length ≤ 1000000000000000) :
    Calls Tryz.prog 39 #[.pointer (some ⟨p, 0, none⟩), .int .i64 (n : Int), .pointer (some ⟨b, 0, none⟩)] w fun e w' => e = .returned (.tuple #[]) ∧ ∃ m v', DiskIn w' p S (u + (S.file n).R.length) v' (.map (some m)) lv lost armed (pset P n b) ∧ Parts w' v'.M v'.I ∧ v.To w w' v' ∧ (∀ l, l ≠ 1 → v'.M l = v.M l ∧ v'.I l = v.I l) ∧ ∀ l g, l ≠ 0 → l ≠ 1 → v.M l g ∨ v.I l g → w'.heap[g]? = w.heap[g]? := by
  obtain ⟨cs, q0, q4, q5, q7⟩ := h.heap
  have hrow := h.rowLt
  have hnp : ∀ l g, l ≠ 0 → v.M l g ∨ v.I l g → g ≠ p := fun l g hl hg e => by
    subst e
    rcases hg with hg | hg
    · exact hp.apart l 0 g hl hg h.p_mem.1
    · exact hp.read l 0 g hg h.p_mem.1
  have pf : ∀ {w' : World} {v' : DV} {P' : Nat → Option Nat}, (∀ x c, P' x = some c → FileAt w' c (S.file x).D (S.file x).A (v'.M (x + 3)) (v'.I (x + 3)) ∧ 1 ≤ x ∧ x ≤ S.fold.n) → FileAt w' b (S.file n).D (S.file n).A (v'.M (n + 3)) (v'.I (n + 3)) → ∀ x c, pset P' n b x = some c → FileAt w' c (S.file x).D (S.file x).A (v'.M (x + 3)) (v'.I (x + 3)) ∧ 1 ≤ x ∧ x ≤ S.fold.n := fun {w' v' P'} h5 h6 x c hx => by
    by_cases e : x = n
    · subst e
      rw [pset_same] at hx
      cases hx
      exact ⟨h6, h1, h2⟩
    · rw [pset_other _ _ e] at hx
      exact h5 x c hx
  have fin' : ∀ {w2 w3 : World} {v' : DV} {m : Nat} {P' : Nat → Option Nat}, DiskIn w2 p S u v' (.map (some m)) lv lost armed P' → Parts w2 v'.M v'.I → FileAt w2 b (S.file n).D (S.file n).A (v'.M (n + 3)) (v'.I (n + 3)) → w2.grownBy w3 (some m) → HasP w3 m (pset P' n b) →
      ∃ w'', w'' = w3.setCell ⟨p, 7, none⟩ (.int .i64 ((u : Int) + ((S.file n).R.length : Int))) ∧ DiskIn w'' p S (u + (S.file n).R.length) v' (.map (some m)) lv lost armed (pset P' n b) ∧ Parts w'' v'.M v'.I ∧ v'.To w2 w'' v' := fun {w2 w3 v' m P'} a1 a2 a3 a4 a5 => by
    obtain ⟨b1, b2, b3⟩ := a1.mapped a2 a4 a5 (pf a1.files a3)
    obtain ⟨c1, c2, c3⟩ := b1.number (S' := S) b2 3 (.int .i64 ((u : Int) + ((S.file n).R.length : Int))) (armed' := armed) (u' := u + (S.file n).R.length) rfl rfl rfl a1.arm a1.armLe
    exact ⟨_, rfl, c1, c2, b3.trans a1.rowLt c3⟩
  rcases h.map with ⟨rfl, rfl⟩ | ⟨m, rfl, hm⟩
  · have hfp : ∀ g, v.M (n + 3) g ∨ v.I (n + 3) g → g ≠ p := fun g hg e => by
      subst e
      rcases hg with hg | hg
      · exact hp.apart (n + 3) 0 g (by omega) hg h.p_mem.1
      · exact hp.read (n + 3) 0 g hg h.p_mem.1
    refine (put_none hf hfp rfl hu q0 q7 q4 (by omega)).mono ?_
    rintro e w' ⟨rfl, w3, g3, h3, rfl⟩
    obtain ⟨v', d1, d2, d3, d4, d5, d6⟩ := h.born hp 1 (by omega) (fun _ => rfl) (fun e => by omega) (fun x e => by omega) (below_alloc' (o := .map #[] 0) (Below.refl _ w)) (M' := fun g => g = w.heap.size) (I' := fun _ => False) (fun g hg => by omega) (fun g hg => hg.elim) (fun g hg => by
      rcases hg with rfl | hg
      · simp
      · exact hg.elim) (fun g hg => hg.elim)
    have hf1 : FileAt (w.alloc (.map #[] 0)) b (S.file n).D (S.file n).A (v'.M (n + 3)) (v'.I (n + 3)) := by
      rw [(d6 (n + 3) (by omega)).1, (d6 (n + 3) (by omega)).2]
      exact hf.below (below_alloc' (Below.refl _ w))
    have hm1 : HasP (w.alloc (.map #[] 0)) w.heap.size (fun _ => none) := hasP_made w
    obtain ⟨e1, e2, e3⟩ := d1.cell (S' := S) d2 0 (.map (some w.heap.size)) (fv' := .map (some w.heap.size)) (lv' := lv) (lost' := lost) (P' := fun _ => none) (armed' := armed) (u' := u) rfl rfl rfl d1.arm d1.armLe (.inr ⟨_, rfl, hm1⟩) (fun b hb => by cases hb; rw [d4]) d1.row d1.rowM (fun x c hx => by cases hx)
    have hf2 : FileAt ((w.alloc (.map #[] 0)).setCell ⟨p, 0 + 4, none⟩ (.map (some w.heap.size))) b (S.file n).D (S.file n).A (v'.M (n + 3)) (v'.I (n + 3)) := hf1.same (fun g hg => Fld.heap_setCell_ne (by
      rw [(d6 (n + 3) (by omega)).1, (d6 (n + 3) (by omega)).2] at hg
      exact hfp g hg)) (by simp)
    obtain ⟨w'', rfl, f1, f2, f3⟩ := fin' e1 e2 hf2 g3 h3
    refine ⟨rfl, _, v', f1, f2, (d3.trans hrow e3).trans hrow f3, d6, fun l g hl0 hl1 hg => ?_⟩
    have hlt := hp.mem l g hg
    have hn := hnp l g hl0 hg
    rw [Fld.heap_setCell_ne hn, g3.block g (by simp; omega) (fun e => by have := Option.some.inj e; omega), Fld.heap_setCell_ne hn]
    exact Below.heap_alloc _ _ _ hlt
  · have hNs : ∀ x c, P x = some c → x < 100001 := fun x c hx => by have := (h.files x c hx).2.2; omega
    have hmf : ∀ W, w.grownBy W (some m) → FileAt W b (S.file n).D (S.file n).A (v.M (n + 3)) (v.I (n + 3)) := fun W g => hf.same (fun k hk => g.block k (hf.mem k hk) (fun e => by
      have := Option.some.inj e
      subst this
      rcases hk with hk | hk
      · exact hp.apart (n + 3) 1 k (by omega) hk (h.mapM k rfl)
      · exact hp.read (n + 3) 1 k hk (h.mapM k rfl))) g.size
    refine (put_some hmf rfl hu q0 q7 q4 hm hNs (by omega) (by omega)).mono ?_
    rintro e w' ⟨rfl, w3, g3, h3, rfl⟩
    obtain ⟨w'', rfl, f1, f2, f3⟩ := fin' h hp hf g3 h3
    refine ⟨rfl, m, v, f1, f2, f3, fun _ _ => ⟨rfl, rfl⟩, fun l g hl0 hl1 hg => ?_⟩
    rw [Fld.heap_setCell_ne (hnp l g hl0 hg)]
    exact g3.block g (hp.mem l g hg) fun e => by
      have := Option.some.inj e
      subst this
      rcases hg with hg | hg
      · exact hp.apart l 1 g hl1 hg (h.mapM g rfl)
      · exact hp.read l 1 g hg (h.mapM g rfl)
end Go.Proofs.YtmmoilmfpiclgaaGreat
namespace Go.Proofs.YtmmoilmfpiclgaaGreat
open Go.RowKit Go.Shelf
open Fld (FS Names FAct actsOn foundN foundB findT withT withoutT GoodN Rising mayB nam nameMax FolderS FolderIn ARow textsOf)
attribute [local instance] Fld.alone

theorem nam_ne {T : Names} {n : Nat} (h : GoodN T n) {i k : Nat} (hik : i < k) (hk : k < T.length) : (nam T i).2 ≠ (nam T k).2 := fun e => by
  have h1 := h.one _ (Fld.nam_mem (by omega : i < T.length)) _ (Fld.nam_mem hk) e
  rw [Fld.nam_lt (by omega : i < T.length), Fld.nam_lt hk] at h1
  have h2 := List.pairwise_iff_getElem.1 h.rising i k (by omega) hk hik
  rw [h1] at h2
  exact Fld.lt_irrefl' _ h2
/-- The numbers of the first names. -/
def nums (T : Names) (k : Nat) : List Nat := (T.take k).map (·.2)
theorem nums_succ {T : Names} {k : Nat} (h : k < T.length) : nums T (k + 1) = nums T k ++ [(nam T k).2] := by
  unfold nums
  rw [List.take_succ_eq_append_getElem h, List.map_append, ← Fld.nam_lt h]
  rfl
theorem nums_mem {T : Names} {k x : Nat} (h : x ∈ nums T k) : ∃ i, i < k ∧ i < T.length ∧ (nam T i).2 = x := by
  obtain ⟨q, hq, rfl⟩ := List.mem_map.1 h
  obtain ⟨i, hi, rfl⟩ := List.mem_iff_getElem.1 hq
  rw [List.length_take] at hi
  refine ⟨i, by omega, by omega, ?_⟩
  rw [Fld.nam_lt (by omega : i < T.length), List.getElem_take]
theorem nums_not {T : Names} {n : Nat} (h : GoodN T n) {k : Nat} (hk : k < T.length) : (nam T k).2 ∉ nums T k := fun hm => by
  obtain ⟨i, h1, h2, e⟩ := nums_mem hm
  exact nam_ne h h1 hk e
theorem rest_other (T : Names) (l : List Nat) (f : Nat → FileS) (x : Nat) : ∀ k, k ≤ T.length → x ∉ nums T k → restFile T l f k x = f x
  | 0, _, _ => rfl
  | k + 1, hk, h => by
    rw [nums_succ (by omega)] at h
    simp only [List.mem_append, List.mem_singleton, not_or] at h
    show upd (restFile T l f k) (nam T k).2 _ x = f x
    rw [upd_other _ _ h.2]
    exact rest_other T l f x k (by omega) h.1
theorem rest_at (T : Names) (l : List Nat) (f : Nat → FileS) (k : Nat) : restFile T l f (k + 1) (nam T k).2 = (restFile T l f k (nam T k).2).stay (num l (2 * k + 1)) (num l (2 * k + 2)) := upd_same _ _ _
/-- How much the first names have. -/
def restU (T : Names) (l : List Nat) (f : Nat → FileS) (k : Nat) : Nat := sumN (lenOf (restFile T l f k)) (T.take k)
theorem rest_sum {T : Names} {n : Nat} (h : GoodN T n) (l : List Nat) (f : Nat → FileS) {k : Nat} (hk : k < T.length) : restU T l f (k + 1) = restU T l f k + (restFile T l f (k + 1) (nam T k).2).R.length := by
  unfold restU
  rw [List.take_succ_eq_append_getElem hk, ← Fld.nam_lt hk, sumN_append, sumN_cons, sumN_nil]
  have : sumN (lenOf (restFile T l f (k + 1))) (T.take k) = sumN (lenOf (restFile T l f k)) (T.take k) := sumN_congr fun p hp => by
    have hm : p.2 ∈ nums T k := List.mem_map.2 ⟨p, hp, rfl⟩
    unfold lenOf
    have e : p.2 ≠ (nam T k).2 := fun e => nums_not h hk (e ▸ hm)
    show (upd (restFile T l f k) (nam T k).2 _ p.2).R.length = _
    rw [upd_other _ _ e]
  rw [this]
  rfl
/-- The files that have been put. -/
def restP (P : Nat → Option Nat) (T : Names) (k : Nat) : Nat → Option Nat := fun x => if x ∈ nums T k then P x else none
theorem restP_zero (P : Nat → Option Nat) (T : Names) : restP P T 0 = fun _ => none := rfl
theorem restP_succ {P : Nat → Option Nat} {T : Names} {k b : Nat} (h : k < T.length) (hb : P (nam T k).2 = some b) : pset (restP P T k) (nam T k).2 b = restP P T (k + 1) := funext fun y => by
  unfold pset restP
  rw [nums_succ h]
  by_cases e : y = (nam T k).2
  · subst e; simp [hb]
  · simp [e]
theorem restP_none {P : Nat → Option Nat} {T : Names} {n : Nat} (h : GoodN T n) {k : Nat} (hk : k < T.length) : restP P T k (nam T k).2 = none := if_neg (nums_not h hk)

/-- The disk behind k names. -/
def restS (S : DS) (F : FS) (l : List Nat) (k : Nat) : DS := { S with fold := F, file := restFile F.there l S.file k }

/-- In the midst of a restart. x: how many names are done, the disk's blocks, its map. -/
structure RestI (w : World) (p : Nat) (S : DS) (F : FS) (v0 : DV) (l : List Nat) (lv fvw : Value) (P : Nat → Option Nat) (armed b2 ba bl b4 b5 : Nat) (x : Nat × DV × Value) (W : World) : Prop where
  le : x.1 ≤ F.there.length
  disk : DiskIn W p (restS S F l x.1) (restU F.there l S.file x.1) x.2.1 x.2.2 (.slice none 0 0) [] armed (restP P F.there x.1)
  parts : Parts W x.2.1.M x.2.1.I
  tos : v0.To w W x.2.1
  old : ∀ n b, P n = some b → n ∉ nums F.there x.1 → FileAt W b (S.file n).D (S.file n).A (x.2.1.M (n + 3)) (x.2.1.I (n + 3)) ∧ 1 ≤ n ∧ n ≤ F.n
  dbox : Boxed W b2 27 (.pointer (some ⟨p, 0, none⟩))
  abox : Boxed W ba 3 (.int .i64 ((min (2 * x.1 + 1) l.length : Nat) : Int))
  lbox : Boxed W bl 33 lv
  rbox : Boxed W b4 100 (.func (.func 115) #[] #[.pointer (some ⟨ba, 0, none⟩), .pointer (some ⟨bl, 0, none⟩)])
  wbox : Boxed W b5 74 fvw
  were : FMap W fvw P
  off : ∀ g, (g = b2 ∨ g = ba ∨ g = bl ∨ g = b4 ∨ g = b5 ∨ Fld.mapOf fvw = some g) → ¬ All x.2.1.M g ∧ ¬ All x.2.1.I g

def restFoot (ba : Nat) (x : Nat × DV × Value) (g : Nat) : Prop := All x.2.1.M g ∨ All x.2.1.I g ∨ g = ba

theorem RestI.bides {w : World} {p : Nat} {S : DS} {F : FS} {v0 : DV} {l : List Nat} {lv fvw : Value} {P : Nat → Option Nat} {armed b2 ba bl b4 b5 : Nat} {x : Nat × DV × Value} {B : Nat} (hr : ∀ b, v0.av.ownBlock = some b → b < w.heap.size) (hB : w.heap.size ≤ B) (h2 : b2 < B) (h3 : bl < B) (h4 : b4 < B) (h5 : b5 < B) (h6 : ∀ b, Fld.mapOf fvw = some b → b < B) :
    Bides B (restFoot ba x) (RestI w p S F v0 l lv fvw P armed b2 ba bl b4 b5 x) := fun W W' row hI hg hrow => by
  have off : ∀ r, row = some r → ¬ All x.2.1.M r ∧ ¬ All x.2.1.I r := fun r e => ⟨fun h => (hrow r e).2 (.inl h), fun h => (hrow r e).2 (.inr (.inl h))⟩
  obtain ⟨d1, d2⟩ := hI.disk.still hI.parts hg off
  have nb : ∀ b, b < B → some b ≠ row := fun b hb e => by have := (hrow b e.symm).1; omega
  have na : some ba ≠ row := fun e => (hrow ba e.symm).2 (.inr (.inr rfl))
  refine ⟨hI.le, d1, d2, hI.tos.still hr hg fun r e => Nat.le_trans hB (hrow r e).1, fun n b hP hn => ⟨(hI.old n b hP hn).1.same (fun g hg' => hg.block g ((hI.old n b hP hn).1.mem g hg') fun e => ?_) hg.size, (hI.old n b hP hn).2⟩,
    hI.dbox.kept hg (nb _ h2), hI.abox.kept hg na, hI.lbox.kept hg (nb _ h3), hI.rbox.kept hg (nb _ h4), hI.wbox.kept hg (nb _ h5), hI.were.same fun b hb => hg.block b ?_ fun e => nb b (h6 b hb) e, hI.off⟩
  · obtain ⟨o1, o2⟩ := off g e.symm
    exact hg'.elim (fun h => o1 ⟨_, h⟩) (fun h => o2 ⟨_, h⟩)
  · rcases hI.were with ⟨rfl, _⟩ | ⟨m, rfl, hm⟩
    · cases hb
    · cases hb; exact hm.lt

theorem staysLe (D : List UInt8) (A : List Do) (d q : Int) : (stays D A d q).length ≤ bulk D A := by
  rw [stays_eq, List.length_append]
  have h1 := reads_length D (doneT A d)
  have h2 := bulk_take D A (upTo d A.length)
  unfold doneT at h1 ⊢
  unfold nextT
  cases hd : A.drop (upTo d A.length) with
  | nil => simp; omega
  | cons x r =>
    cases x with
    | cut n => simp; omega
    | app b =>
      simp only [List.head?_cons, List.length_take]
      have h3 : bulk D (A.take (upTo d A.length) ++ [.app b]) ≤ bulk D A := by
        conv => rhs; rw [← List.take_append_drop (upTo d A.length) A, hd]
        unfold bulk
        simp
      rw [bulk_app] at h3
      omega
theorem stay_heft (f : FileS) (d q : Int) : (f.stay d q).heft ≤ f.heft := by
  show bulk (stays f.D f.A d q) [] ≤ bulk f.D f.A
  rw [bulk_nil]
  exact staysLe _ _ _ _
theorem rest_heft (T : Names) (l : List Nat) (f : Nat → FileS) {b : Nat} (h : ∀ n, (f n).heft ≤ b) : ∀ k n, (restFile T l f k n).heft ≤ b
  | 0, n => h n
  | k + 1, n => by
    show (upd (restFile T l f k) (nam T k).2 _ n).heft ≤ b
    unfold upd
    split
    · exact Nat.le_trans (stay_heft _ _ _) (rest_heft T l f h k _)
    · exact rest_heft T l f h k n
theorem restU_le (T : Names) (l : List Nat) (f : Nat → FileS) {b : Nat} (h : ∀ n, (f n).heft ≤ b) (k : Nat) : restU T l f k ≤ T.length * b := by
  refine Nat.le_trans (sumN_le (b := b) (fun q => Nat.le_trans (reads_length _ _) (rest_heft T l f h k q.2)) _) (Nat.mul_le_mul_right _ ?_)
  rw [List.length_take]
  exact Nat.min_le_right _ _

/-- The numbers' row stands there still. -/
theorem Row16.same {w W : World} {lv : Value} {l : List Nat} (h : Row16 w lv l) (hs : ∀ b o n c, lv = .slice (some ⟨b, o, none⟩) n c → n ≠ 0 → W.heap[b]? = w.heap[b]?) : Row16 W lv l := by
  obtain ⟨ad, c, rfl, hc⟩ := h
  refine ⟨ad, c, rfl, fun i hi => ?_⟩
  obtain ⟨b, o, rfl, h1, h2⟩ := hc i hi
  exact ⟨b, o, rfl, (World.cell?_of_block (a := ⟨b, o + i, none⟩) (hs b o _ _ rfl (by omega))).trans h1, h2⟩

/-- One more number is read. -/
theorem RestI.read {_w : World} {_p : Nat} {_S : DS} {_F : FS} {_v0 : DV} {l : List Nat} {lv _fvw : Value} {_P : Nat → Option Nat} {_armed _b2 ba bl _b4 _b5 a : Nat} {W : World} (hl : Boxed W bl 33 lv) (ha : Boxed W ba 3 (.int .i64 ((min a l.length : Nat) : Int))) (hn : Row16 W lv l) (hll : l.length ≤ 1000000)
    (hne : ∀ b o n c, lv = .slice (some ⟨b, o, none⟩) n c → n ≠ 0 → b ≠ ba) :
    Calls Tryz.prog 115 #[.pointer (some ⟨ba, 0, none⟩), .pointer (some ⟨bl, 0, none⟩)] W fun e w' => e = .returned (.int .i64 ((num l a : Nat) : Int)) ∧ Boxed w' ba 3 (.int .i64 ((min (a + 1) l.length : Nat) : Int)) ∧ W.grownBy w' (some ba) := by
  have e1 : num l (min a l.length) = num l a := by
    unfold num
    by_cases h : a ≤ l.length
    · rw [Nat.min_eq_left h]
    · rw [Nat.min_eq_right (by omega)]
      simp [List.getD, (by omega : l.length ≤ a)]
  have e2 : min (min a l.length + 1) l.length = min (a + 1) l.length := by omega
  refine (next_any ha hl hn (by omega) (by omega) (fun ad n c b o e1 e2 e3 => hne b o n c (by rw [e1, e2]) e3)).mono ?_
  rw [e1, e2]
  exact fun e w' h => h

/-- Behind the two numbers the file stays, and is put. -/
theorem RestI.next {w : World} {p : Nat} {S : DS} {F : FS} {v0 : DV} {l : List Nat} {lv fvw : Value} {P : Nat → Option Nat} {armed b2 ba bl b4 b5 : Nat} {k : Nat} {v : DV} {fv : Value} {W W2 : World} (hI : RestI w p S F v0 l lv fvw P armed b2 ba bl b4 b5 (k, v, fv) W) (hr : ∀ b, v0.av.ownBlock = some b → b < w.heap.size) (hba : w.heap.size ≤ ba)
    (hg : W.grownBy W2 (some ba)) (ha : Boxed W2 ba 3 (.int .i64 ((min (2 * (k + 1) + 1) l.length : Nat) : Int))) (hT : GoodN F.there F.n) (hn : F.n ≤ 100000) (hTl : F.there.length ≤ 100000) (hk : k < F.there.length) (hacts : ∀ n, (S.file n).A.length ≤ 1000) (hsmall : ∀ n, (S.file n).heft ≤ 100000) {b : Nat} (hb : P (nam F.there k).2 = some b) (_hw2 : w.heap.size ≤ W2.heap.size) (hnum : ∀ i, num l i ≤ 65535) :
    Calls Tryz.prog 58 #[.pointer (some ⟨b, 0, none⟩), .agg #[.int .i64 ((num l (2 * k + 1) : Nat) : Int), .int .i64 ((num l (2 * k + 2) : Nat) : Int)]] W2 fun e w3 => e = .returned (.int .i64 0) ∧ Boxed w3 b2 27 (.pointer (some ⟨p, 0, none⟩)) ∧
      Calls Tryz.prog 39 #[.pointer (some ⟨p, 0, none⟩), .int .i64 (((nam F.there k).2 : Nat) : Int), .pointer (some ⟨b, 0, none⟩)] w3 fun e w4 => e = .returned (.tuple #[]) ∧ ∃ v4 fv4, RestI w p S F v0 l lv fvw P armed b2 ba bl b4 b5 (k + 1, v4, fv4) w4 ∧
        W.heap.size ≤ w4.heap.size ∧ (∀ g, g < W.heap.size → ¬ restFoot ba (k, v, fv) g → w4.heap[g]? = W.heap[g]?) ∧ ∀ g, restFoot ba (k + 1, v4, fv4) g → restFoot ba (k, v, fv) g ∨ W.heap.size ≤ g := by
  obtain ⟨n, hn'⟩ : ∃ n, (nam F.there k).2 = n := ⟨_, rfl⟩
  have hnot := nums_not hT hk
  have hpn := restP_none (P := P) hT hk
  have hsucc := restP_succ hk hb
  have hsum := rest_sum hT l S.file hk
  have hat := rest_at F.there l S.file k
  have hoth := rest_other F.there l S.file (nam F.there k).2 k (by omega) hnot
  rw [hn'] at hb hnot hpn hsucc hsum hat hoth ⊢
  rw [hoth] at hat
  -- behind the numbers
  have offa := hI.off ba (.inr (.inl rfl))
  obtain ⟨d1, d2⟩ := hI.disk.still hI.parts hg (fun r e => by cases e; exact offa)
  have t2 : v0.To w W2 v := hI.tos.still hr hg (fun r e => by cases e; exact hba)
  obtain ⟨of1, of2, of3⟩ := hI.old n b hb hnot
  have of2' : FileAt W2 b (S.file n).D (S.file n).A (v.M (n + 3)) (v.I (n + 3)) := of1.same (fun g hg' => hg.block g (of1.mem g hg') (fun e => by
    have := Option.some.inj e
    subst this
    exact hg'.elim (fun h => offa.1 ⟨_, h⟩) (fun h => offa.2 ⟨_, h⟩))) hg.size
  have nba : ∀ g, g = b2 ∨ g = bl ∨ g = b4 ∨ g = b5 → some g ≠ some ba := fun g h e => by
    have e := Option.some.inj e
    subst e
    rcases h with rfl | rfl | rfl | rfl
    · exact Fld.two_types hI.dbox hI.abox (by decide) rfl
    · exact Fld.two_types hI.lbox hI.abox (by decide) rfl
    · exact Fld.two_types hI.rbox hI.abox (by decide) rfl
    · exact Fld.two_types hI.wbox hI.abox (by decide) rfl
  have x2 : Boxed W2 b2 27 (.pointer (some ⟨p, 0, none⟩)) := hI.dbox.kept hg (nba _ (.inl rfl))
  have xl : Boxed W2 bl 33 lv := hI.lbox.kept hg (nba _ (.inr (.inl rfl)))
  have x4 := hI.rbox.kept hg (nba _ (.inr (.inr (.inl rfl))))
  have x5 : Boxed W2 b5 74 fvw := hI.wbox.kept hg (nba _ (.inr (.inr (.inr rfl))))
  have hwere : FMap W2 fvw P := hI.were.same fun b hb => hg.block b (by
    rcases hI.were with ⟨rfl, _⟩ | ⟨m, rfl, hm⟩
    · cases hb
    · cases hb; exact hm.lt) (fun e => by
    rcases hI.were with ⟨rfl, _⟩ | ⟨m, rfl, hm⟩
    · cases hb
    · cases hb
      have e := Option.some.inj e
      subst e
      obtain ⟨es, clock, hm⟩ := hm.mem
      have := hI.abox
      unfold Boxed at this
      rw [hm] at this; cases this)
  have hold : ∀ m c, P m = some c → m ∉ nums F.there k → FileAt W2 c (S.file m).D (S.file m).A (v.M (m + 3)) (v.I (m + 3)) ∧ 1 ≤ m ∧ m ≤ F.n := fun m c hm hmn => by
    obtain ⟨q1, q2⟩ := hI.old m c hm hmn
    exact ⟨q1.same (fun g hg' => hg.block g (q1.mem g hg') (fun e => by
      have := Option.some.inj e
      subst this
      exact hg'.elim (fun h => offa.1 ⟨_, h⟩) (fun h => offa.2 ⟨_, h⟩))) hg.size, q2⟩
  have n1 := hnum (2 * k + 1)
  have n2 := hnum (2 * k + 2)
  refine (stay_any of2' (hacts n) (by omega) (by omega) (by omega) (by omega)).mono ?_
  rintro e w3 ⟨rfl, M', I', f1, f2, f3, f4⟩
  obtain ⟨v3, c1, c2, c3, c4, c5, c6⟩ := d1.filedOut d2 hpn f1 f2 f3 f4
  have hS : ({ restS S F l k with file := upd (restS S F l k).file n ⟨stays (S.file n).D (S.file n).A ((num l (2 * k + 1) : Nat) : Int) ((num l (2 * k + 2) : Nat) : Int), []⟩ } : DS) = restS S F l (k + 1) := by
    have : upd (restFile F.there l S.file k) n ⟨stays (S.file n).D (S.file n).A ((num l (2 * k + 1) : Nat) : Int) ((num l (2 * k + 2) : Nat) : Int), []⟩ = restFile F.there l S.file (k + 1) := by
      show _ = upd (restFile F.there l S.file k) (nam F.there k).2 _
      rw [hn', hoth]
      rfl
    unfold restS
    simp only [this]
  rw [hS] at c1
  have boxo : ∀ {W' : World} {v' : DV} {b' : Nat} {T : TypeId} {x : Value}, Boxed W2 b' T x → v.To W2 W' v' → ¬ All v.M b' → Boxed W' b' T x := fun {W' v' b' T x} h t hno => (t.kept.block b' h.lt hno).trans h
  refine ⟨rfl, boxo x2 c3 (hI.off b2 (.inl rfl)).1, ?_⟩
  have ff : FileAt w3 b ((restS S F l (k + 1)).file n).D ((restS S F l (k + 1)).file n).A (v3.M (n + 3)) (v3.I (n + 3)) := by
    show FileAt w3 b (restFile F.there l S.file (k + 1) n).D (restFile F.there l S.file (k + 1) n).A _ _
    rw [hat, c4, c5]
    exact f1
  have hRle : ((restS S F l (k + 1)).file n).R.length ≤ 100000 := Nat.le_trans (reads_length _ _) ff.small
  have hTl : F.there.length ≤ 100000 := hTl
  have hus : restU F.there l S.file k ≤ 10000000000 := Nat.le_trans (restU_le F.there l S.file hsmall k) (Nat.mul_le_mul_right 100000 hTl)
  have hz3 := f4.size
  refine (put_part c1 c2 hpn (by show F.n ≤ 100000; exact hn) of2 of3 ff (by show restU F.there l S.file k + ((restS S F l (k + 1)).file n).R.length ≤ _; omega)).mono ?_
  rintro e w4 ⟨rfl, m4, v4, e1, e2, e3, e4, e5⟩
  rw [show ((restS S F l (k + 1)).file n).R.length = (restFile F.there l S.file (k + 1) n).R.length from rfl, ← hsum, hsucc] at e1
  have off3 : ∀ g, g < W2.heap.size → ¬ All v.M g ∧ ¬ All v.I g → ¬ All v3.M g ∧ ¬ All v3.I g := fun g hlt ⟨h1, h2⟩ => ⟨fun h => by
    rcases c3.m g h with h | h
    · exact h1 h
    · omega, fun h => by
    rcases c3.i g h with h | h
    · exact h2 h
    · omega⟩
  have off4 : ∀ g, g < W2.heap.size → ¬ All v.M g ∧ ¬ All v.I g → ¬ All v4.M g ∧ ¬ All v4.I g := fun g hlt ho => by
    obtain ⟨h1, h2⟩ := off3 g hlt ho
    refine ⟨fun h => ?_, fun h => ?_⟩
    · rcases e3.m g h with h | h
      · exact h1 h
      · omega
    · rcases e3.i g h with h | h
      · exact h2 h
      · omega
  have same4 : ∀ g, g < W2.heap.size → ¬ All v.M g ∧ ¬ All v.I g → w4.heap[g]? = W2.heap[g]? := fun g hlt ho => by
    rw [e3.kept.block g (by omega) (off3 g hlt ho).1, c3.kept.block g hlt ho.1]
  have bx : ∀ {b' : Nat} {T : TypeId} {x : Value}, Boxed W2 b' T x → ¬ All v.M b' ∧ ¬ All v.I b' → Boxed w4 b' T x := fun {b' T x} h ho => (same4 b' h.lt ho).trans h
  have hwlt : ∀ g, Fld.mapOf fvw = some g → g < W2.heap.size := fun g hg' => by
    rcases hwere with ⟨rfl, _⟩ | ⟨m, rfl, hm⟩
    · cases hg'
    · cases hg'; exact hm.lt
  have hlt2 : ∀ g, (g = b2 ∨ g = ba ∨ g = bl ∨ g = b4 ∨ g = b5 ∨ Fld.mapOf fvw = some g) → g < W2.heap.size := fun g h => by
    rcases h with rfl | rfl | rfl | rfl | rfl | h
    · exact x2.lt
    · exact ha.lt
    · exact xl.lt
    · exact x4.lt
    · exact x5.lt
    · exact hwlt g h
  refine ⟨rfl, v4, .map (some m4), ⟨hk, e1, e2, (t2.trans hr c3).trans hr e3, fun x c hx hxn => ?_, bx x2 (hI.off _ (.inl rfl)), bx ha (hI.off _ (.inr (.inl rfl))), bx xl (hI.off _ (.inr (.inr (.inl rfl)))), bx x4 (hI.off _ (.inr (.inr (.inr (.inl rfl))))), bx x5 (hI.off _ (.inr (.inr (.inr (.inr (.inl rfl)))))), hwere.same fun g hg' => same4 g (hwlt g hg') (hI.off g (.inr (.inr (.inr (.inr (.inr hg')))))), fun g h => off4 g (hlt2 g h) (hI.off g h)⟩, ?_, fun g hlt hno => ?_, fun g hg' => ?_⟩
  · rw [nums_succ hk, hn'] at hxn
    simp only [List.mem_append, List.mem_singleton, not_or] at hxn
    obtain ⟨q1, q2⟩ := hold x c hx hxn.1
    have hne : x + 3 ≠ n + 3 := by omega
    have q3 : FileAt w3 c (S.file x).D (S.file x).A (v3.M (x + 3)) (v3.I (x + 3)) := by
      rw [(c6 _ hne).1, (c6 _ hne).2]
      exact q1.same (fun g hg' => d2.kept f4 hne g hg') hz3
    refine ⟨?_, q2⟩
    rw [(e4 (x + 3) (by omega)).1, (e4 (x + 3) (by omega)).2]
    exact q3.same (fun g hg' => e5 (x + 3) g (by omega) (by omega) hg') e3.kept.size
  · exact Nat.le_trans hg.size (Nat.le_trans hz3 e3.kept.size)
  · have hn1 : ¬ All v.M g ∧ ¬ All v.I g := ⟨fun h => hno (.inl h), fun h => hno (.inr (.inl h))⟩
    rw [same4 g (Nat.lt_of_lt_of_le hlt hg.size) hn1]
    exact hg.block g hlt fun e => hno (.inr (.inr (Option.some.inj e)))
  · have hz := hg.size
    rcases hg' with h | h | h
    · rcases e3.m g h with h | h
      · rcases c3.m g h with h | h
        · exact .inl (.inl h)
        · exact .inr (by omega)
      · exact .inr (by omega)
    · rcases e3.i g h with h | h
      · rcases c3.i g h with h | h
        · exact .inl (.inr (.inl h))
        · exact .inr (by omega)
      · exact .inr (by omega)
    · exact .inl (.inr (.inr h))
end Go.Proofs.YtmmoilmfpiclgaaGreat
namespace Go.Proofs.YtmmoilmfpiclgaaGreat
open Go.RowKit Go.Shelf
open Fld (FS Names FAct actsOn foundN foundB findT withT withoutT GoodN Rising mayB nam nameMax FolderS FolderIn ARow textsOf)

attribute [local go_sem] Oper.semAt_some
attribute [local instance] Fld.alone

/-- Files, as cells. -/
def fileC (p : List UInt8 × List UInt8) : List Value := [.string (Fld.strO p.1), .string (Fld.strO p.2)]
def filesC (l : List (List UInt8 × List UInt8)) : List Value := l.flatMap fileC

theorem iFile : (Tryz.prog.info? 26).map (fun i => (i.zero, i.size, i.bytes)) = some (some (.agg #[.string ⟨#[]⟩, .string ⟨#[]⟩]), 2, 32) := by kernel_rfl

/-- What Files has made of the first names. -/
def filesT (S : DS) (T : Names) : List (List UInt8 × List UInt8) := T.map fun p => (p.1, (S.file p.2).R)

theorem cells_two_new (w : World) (x y : Value) (t : TypeId) : ∀ j u, [x, y][j]? = some u → (w.alloc (.cells #[x, y] t)).cell? ((⟨w.heap.size, 0, none⟩ : Addr).add j) = some u := by
  intro j u hj
  match j, hj with
  | 0, hj =>
    simp at hj
    subst hj
    simp [Addr.add]
  | 1, hj =>
    simp at hj
    subst hj
    simp [Addr.add]
theorem filesT_take {S : DS} {T : Names} {k : Nat} (h : k < T.length) : filesC (filesT S (T.take (k + 1))) = filesC (filesT S (T.take k)) ++ fileC ((nam T k).1, (S.file (nam T k).2).R) := by
  rw [List.take_succ_eq_append_getElem h, ← Fld.nam_lt h]
  unfold filesC filesT
  rw [List.map_append, List.flatMap_append]
  simp

/-- Behind k names: the box of the row, and the row. -/
structure FilesI (S : DS) (w : World) (p b1 b3 : Nat) (x : Nat × Value) (W : World) : Prop where
  le : x.1 ≤ S.fold.there.length
  box : Boxed W b3 22 x.2
  dbox : Boxed W b1 27 (.pointer (some ⟨p, 0, none⟩))
  row : W.ownsRow w.heap.size 26 2 x.2 x.1 (filesC (filesT S (S.fold.there.take x.1)))
  below : Below w.heap.size w W
theorem FilesI.turned {S : DS} {w : World} {p b1 b3 : Nat} {x : Nat × Value} {W W' : World} {row : Option Nat} (h : FilesI S w p b1 b3 x W) (hg : W.grownBy W' row) (h1 : row ≠ some b1) (h3 : row ≠ some b3) (ho : ∀ g, x.2.ownBlock = some g → row ≠ some g) (hr : ∀ r, row = some r → w.heap.size ≤ r) : FilesI S w p b1 b3 x W' :=
  ⟨h.le, (hg.block b3 h.box.lt (fun e => h3 e.symm)).trans h.box, (hg.block b1 h.dbox.lt (fun e => h1 e.symm)).trans h.dbox, owns_same h.row (fun g hg' => hg.block g (h.row.lt g hg').2 (fun e => ho g hg' e.symm)), h.below.grown hg h.below.size hr⟩

/-- What the range turns. -/
def filesFoot (b3 : Nat) (x : Nat × Value) (g : Nat) : Prop := g = b3 ∨ x.2.ownBlock = some g

set_option maxRecDepth 100000 in
set_option maxHeartbeats 4000000 in
theorem files_in (n : Nat) (hn : 6 ≤ n) {w : World} {p : Nat} {S : DS} {v : DV} (h : DiskP w p S v) (hd : S.down = false) (hl : S.fold.weight ≤ 80000) :
    CallsIn Fence.wide n Tryz.prog 28 #[.pointer (some ⟨p, 0, none⟩)] w fun e w' => ∃ r, e = .returned r ∧ w'.ownsRow w.heap.size 26 2 r (filesT S S.fold.there).length (filesC (filesT S S.fold.there)) ∧ Below w.heap.size w w' := by
  have h1 : 1 ≤ n := by omega
  have QD := Lib.hid (fun W (B : Below w.heap.size w W) => callsIn_wide (n := n - 1) |>.2 (hd ▸ down_any (h.below B)))
  refine callsIn_of_wp_marks Tryz.func28 rfl trivial ?_ rfl
  simp only [Tryz.ntmps28, List.size_toArray, List.length_cons, List.length_nil, Nat.reduceAdd, Nat.reduceSub, Array.replicate_succ, Array.replicate_zero, List.push_toArray, List.append_toArray, List.nil_append, List.cons_append]
  have b1 : Below w.heap.size w (w.alloc (.cells #[.pointer (some ⟨p, 0, none⟩)] 27)) := (Below.refl _ w).alloc (Nat.le_refl _) _
  gi_wp2_with (first
    | (refine ⟨trivial, ?_⟩; gi_at_call 32; go_loud (refine (QD.out _ b1).mono ?_; rintro e w' ⟨rfl, rfl⟩))
    | (refine ⟨trivial, ?_⟩; gi_at_call 57; go_loud (refine (callsIn_wide.2 (there_any _ p)).mono ?_; rintro e w2 ⟨bd, rfl, hbd, hbl, hb2⟩)))
  have b3 := below_duo w (.cells #[.pointer (some ⟨p, 0, none⟩)] 27) (.cells #[.slice none 0 0] 22)
  obtain ⟨o1, o2⟩ := heap_two w (.cells #[.pointer (some ⟨p, 0, none⟩)] 27) (.cells #[.slice none 0 0] 22)
  obtain ⟨w1, hw1⟩ : ∃ w1, (w.alloc (.cells #[.pointer (some ⟨p, 0, none⟩)] 27)).alloc (.cells #[.slice none 0 0] 22) = w1 := ⟨_, rfl⟩
  have hz1 : w1.heap.size = w.heap.size + 1 + 1 := by rw [← hw1]; simp
  rw [hw1] at o1 o2 b3 hb2 hbl
  have i0 : FilesI S w p w.heap.size (w.heap.size + 1) (0, .slice none 0 0) w2 := ⟨Nat.zero_le _, (hb2.block _ (Array.getElem?_eq_some_iff.1 o2).1).trans o2, (hb2.block _ (Array.getElem?_eq_some_iff.1 o1).1).trans o1, World.ownsRow_nil _ _ _ _, b3.trans (hb2.mono b3.size)⟩
  have hz2 : w.heap.size + 1 + 1 ≤ w2.heap.size := by have := hb2.size; omega
  have hT : ∀ k, k < S.fold.there.length → ∃ b, ∀ W, Below w.heap.size w W → W.cell? ⟨p, 4, none⟩ = (w.cell? ⟨p, 4, none⟩) ∧ (∃ m, w.cell? ⟨p, 4, none⟩ = some (.map (some m)) ∧ (Instr.lookup 74 (.map (some m)) (.int .i64 ((nam S.fold.there k).2 : Nat)) false).run Tryz.prog W = .ok (.pointer (some ⟨b, 0, none⟩)) W) ∧
      Calls Tryz.prog 88 #[.pointer (some ⟨b, 0, none⟩)] W fun e w' => e = .returned (.string (Fld.strO (S.file (nam S.fold.there k).2).R)) ∧ W = w' := fun k hk => by
    obtain ⟨fv, lv, lost, armed, P, d1, hkn⟩ := h.it
    have hm := Fld.nam_mem hk
    obtain ⟨b, hb⟩ := hkn.1.there _ hm
    obtain ⟨k4, _⟩ := d1.cells
    have hx : (nam S.fold.there k).2 ≤ 1000000000 := by
      have h4 : S.fold.n ≤ S.fold.weight := Nat.le_add_left _ _
      have := (d1.files _ b hb).2.2
      omega
    rcases d1.map with ⟨rfl, rfl⟩ | ⟨m, rfl, hmp⟩
    · cases hb
    · exact ⟨b, fun W hW => ⟨hW.cell (p := ⟨p, 4, none⟩) d1.p_mem.2, ⟨m, k4, (hmp.same (hW.block m hmp.lt)).look hx hb⟩, bytes_any ((d1.files _ b hb).1.below hW)⟩⟩
  have HT := Lib.hid hT
  have hshort := h.good.there
  have QT := Lib.hid (fun W (B : Below w.heap.size w W) => (h.below B).it.elim fun fv h2 => h2.elim fun lv h3 => h3.elim fun lost h4 => h4.elim fun armed h5 => h5.elim fun P h6 => h6.1.tells (by omega))
  have hgood := h.good
  have hplt := (h.cellP).elim fun cs hc => (Array.getElem?_eq_some_iff.1 hc).1
  clear h QD b1 b3 hT hb2 o1 o2 hw1
  generalize hb1 : w.heap.size = b1 at i0 hz2 ⊢
  generalize hb3 : b1 + 1 = b3 at i0 hz2 ⊢
  refine wpIn_range_foot h1 (gf := 116) (lb := #[.pointer (some ⟨bd, 0, none⟩)]) rfl (enters_of Tryz.func116 (by kernel_rfl) rfl)
    (there_iter (n - 1) (by omega) (σ := Nat × Value) (fun x => x.1) (filesFoot b3) w2 (s0 := (0, .slice none 0 0)) hgood (by omega) hbd ?nb rfl) (fun _ => rfl) (FilesI S w p b1 b3) (fun _ _ => False)
    (fun x a' W => a' = { tmps := #[.pointer (some ⟨p, 0, none⟩), .pointer (some ⟨b1, 0, none⟩), .slice none 0 0, .pointer (some ⟨b3, 0, none⟩), .string (Fld.strO (nam S.fold.there x.1).1), .int .i64 ((nam S.fold.there x.1).2 : Nat), .pointer (some ⟨p, 0, none⟩), .bool false, .pointer (some ⟨p, 0, none⟩), .func (.func 116) #[] #[.pointer (some ⟨bd, 0, none⟩)], .string (Fld.strO (nam S.fold.there x.1).1), .int .i64 ((nam S.fold.there x.1).2 : Nat), undef, undef, undef, undef, undef, undef, undef, undef, undef, undef, undef, undef, undef], defers := [] })
    ?bi ?bx ?ba ?bm ?f0 ?start ?assign ?body ?done ?stop
  case nb =>
    rintro (e | e)
    · omega
    · cases e
  case bi =>
    intro x W W' row hI hg hr
    refine hI.turned hg (fun e => ?_) (fun e => ?_) (fun g hg' e => ?_) (fun r e => ?_)
    · have := (hr _ e).1; omega
    · exact (hr _ e).2 (.inl rfl)
    · exact (hr _ e).2 (.inr hg')
    · have := (hr _ e).1; omega
  case bx => exact fun c W W' hf _ => hf.elim
  case ba => exact fun x a' W W' row hx _ _ => hx
  case bm => exact fun R x W hI => QT.out W hI.1.below
  case f0 =>
    rintro g (e | e)
    · omega
    · cases e
  case start => exact i0
  case assign =>
    intro l x W hI
    gi_wp2
    exact ⟨⟨rfl, rfl, rfl, Nat.le_refl _, fun _ _ _ => rfl⟩, trivial⟩
  case body =>
    rintro l ⟨k, lv⟩ a' W hnf hft hWz hI rfl
    have hlt : k < S.fold.there.length := by simpa using hnf
    obtain ⟨b, hW⟩ := HT.out k hlt
    obtain ⟨q1, ⟨m, q2, q3⟩, q4⟩ := hW W.drew hI.below.drew
    have k4 : W.cell? ⟨p, 4, none⟩ = some (.map (some m)) := (hW W hI.below).1.trans q2
    have k1 := hI.dbox.cell
    have k3 : W.cell? ⟨b3, 0, none⟩ = some lv := hI.box.cell
    have f3 := hI.box.frozen
    have hb3l := hI.box.lt
    have hsn := filesT_take (S := S) hlt
    obtain ⟨t, ht⟩ : ∃ t, Fld.strO (nam S.fold.there k).1 = t := ⟨_, rfl⟩
    obtain ⟨xn, hx⟩ : ∃ xn, (nam S.fold.there k).2 = xn := ⟨_, rfl⟩
    obtain ⟨y, hy⟩ : ∃ y, Fld.strO (S.file xn).R = y := ⟨_, rfl⟩
    have hfc : fileC ((nam S.fold.there k).1, (S.file (nam S.fold.there k).2).R) = [.string t, .string y] := by
      unfold fileC
      rw [ht, hx, hy]
    rw [hfc] at hsn
    rw [hx] at q3 q4
    rw [hy] at q4
    dsimp only
    rw [ht, hx]
    have hmo : Tryz.prog.follows .mixedOrders = true := by kernel_rfl
    have hn2 : 1 ≤ n - 1 - 1 := by omega
    obtain ⟨i0, hi, hz1', hz2', hz3'⟩ := info_parts iFile
    obtain ⟨ad, c, hlv⟩ := ownsSlice hI.row
    have hlv : lv = .slice ad k c := hlv
    subst hlv
    have HRW := Lib.hid hI.row
    have HI := Lib.hid hI
    have HSN := Lib.hid hsn
    have Q4 := Lib.hid (callsIn_wide (n := n - 1 - 1 - 1) |>.2 q4)
    have hTl : S.fold.there.length ≤ 80000 := Nat.le_trans (Fld.FS.there_length S.fold) hl
    have hb2 : Below W.heap.size W (W.alloc (.cells #[.string t, .string y] 26)).drew := Below.drew ((Below.refl _ W).alloc (Nat.le_refl _) _)
    have hown2 := owns_same (w' := (W.alloc (.cells #[.string t, .string y] 26)).drew) (hI.row.alloc (.cells #[.string t, .string y] 26)) (fun _ _ => rfl)
    have hnews := cells_two_new W (.string t) (.string y) 26
    have hbw := hI.below.size
    have hWz' : b1 ≤ (W.alloc (.cells #[.string t, .string y] 26)).drew.heap.size := Nat.le_trans (by omega) hb2.size
    obtain ⟨v', w3, hrun, hown3, hg3, _, ho3⟩ := run_append_own_at (P := Tryz.prog) (W.alloc (.cells #[.string t, .string y] 26)).drew w.heap.size 22 22 26 i0 (.agg #[.string ⟨#[]⟩, .string ⟨#[]⟩]) 2 32 Tryz.underlying22 hi hz1' hz2' hz3' rfl (by decide) (.slice ad k c) k _ hown2 ⟨W.heap.size, 0, none⟩ 1 1 [.string t, .string y] rfl hnews (by simp [Value.oneCell']) (by unfold maxLen; omega) (by omega) (by omega)
    obtain ⟨ad', c', hv'⟩ := ownsSlice hown3
    subst hv'
    have hnb : ∀ b T x, Boxed W b T x → T ≠ 26 → (Value.slice ad k c).ownBlock ≠ some b := fun b T x hb hT hg => by
      rcases hI.row.2 with ⟨e, h0⟩ | ⟨g', cap, cur, e, hbg, hg', _⟩
      · rw [show Value.slice ad k c = .slice none 0 0 from e] at hg; cases hg
      · rw [show Value.slice ad k c = .slice (some ⟨g', 0, none⟩) _ cap from e] at hg
        cases hg
        exact Fld.two_types hg' hb (fun e => hT e.symm) rfl
    have keep3 : ∀ b T x, Boxed W b T x → T ≠ 26 → Boxed w3 b T x := fun b T x hb hT => (hg3.block b (Nat.lt_of_lt_of_le hb.lt hb2.size) (fun e => hnb b T x hb hT e.symm)).trans (boxed_below hb hb2)
    have x3 := keep3 _ _ _ hI.box (by decide)
    have x1 := keep3 _ _ _ hI.dbox (by decide)
    have kx3 := x3.cell
    have fx3 := x3.frozen
    have X3 := Lib.hid x3
    have X1 := Lib.hid x1
    have HW3 := Lib.hid hown3
    have G3 := Lib.hid hg3
    have O3 := Lib.hid ho3
    have B2 := Lib.hid hb2
    have hfin : roundFoot w2.heap.size (filesFoot b3) (fun s s' : Nat × Value => s'.1 = s.1 + 1) (FilesI S w p b1 b3) (fun _ _ => False) (k, .slice ad k c) W .normal { tmps := #[], defers := [] } (w3.setCell ⟨b3, 0, none⟩ (.slice ad' (k + 1) c')) := by
      have hown : ∀ g, (Value.slice ad k c).ownBlock = some g → g < W.heap.size := fun g hg => (hI.row.lt g hg).2
      have same : ∀ g, g < W.heap.size → (Value.slice ad k c).ownBlock ≠ some g → g ≠ b3 → (w3.setCell ⟨b3, 0, none⟩ (.slice ad' (k + 1) c')).heap[g]? = W.heap[g]? := fun g hg ho h3 => by
        rw [Fld.heap_setCell_ne h3, hg3.block g (Nat.lt_of_lt_of_le hg hb2.size) (fun e => ho e.symm), hb2.block g hg]
      have hsz3 : (w3.setCell ⟨b3, 0, none⟩ (.slice ad' (k + 1) c')).heap.size = w3.heap.size := by simp
      have hz13 : W.heap.size ≤ w3.heap.size := Nat.le_trans hb2.size hg3.size
      have nB : ∀ j, j < 2 → (Value.slice ad k c).ownBlock ≠ some (w2.heap.size + j) := fun j hj e => by
        rcases hft _ (.inr e) with h | h <;> omega
      refine ⟨⟨same _ (by omega) (nB 0 (by omega)) (by omega), same _ (by omega) (nB 1 (by omega)) (by omega)⟩, by rw [hsz3]; exact hz13, fun r cs T fz hr hx => ?_, (k + 1, .slice ad' (k + 1) c'), rfl, fun g hg => ?_, ?_⟩
      · rw [same r (Array.getElem?_eq_some_iff.1 hr).1 (fun e => hx (.inr e)) (fun e => hx (.inl e))]
        exact hr
      · rcases hg with hg | hg
        · exact .inl (.inl hg)
        · rcases ho3 with e | e
          · exact .inl (.inr (e ▸ hg))
          · rw [show (k + 1, Value.slice ad' (k + 1) c').2.ownBlock = _ from e] at hg
            cases hg
            exact .inr hb2.size
      · have hgs : w3.grownBy (w3.setCell ⟨b3, 0, none⟩ (.slice ad' (k + 1) c')) (some b3) := grownBy_setCell' w3 b3 _
        have n3 : ∀ g, (Value.slice ad' (k + 1) c').ownBlock = some g → g ≠ b3 := fun g hg e => by
          subst e
          rcases hown3.2 with ⟨e, h0⟩ | ⟨g', cap, cur, e, hbg, hg', _⟩
          · cases h0
          · rw [show Value.slice ad' (k + 1) c' = .slice (some ⟨g', 0, none⟩) _ cap from e] at hg
            cases hg
            exact Fld.two_types hg' x3 (by decide) rfl
        refine ⟨hlt, x3.set _, (hgs.block b1 x1.lt (fun e => by have := Option.some.inj e; omega)).trans x1, ?_, ?_⟩
        · rw [hsn]
          exact owns_same hown3 fun g hg => hgs.block g (hown3.lt g hg).2 (fun e => n3 g hg (Option.some.inj e))
        · have hwg : Below w.heap.size w w3 := (hI.below.trans (hb2.mono hbw)).grown hg3 (Nat.le_trans hbw hb2.size) (fun r e => (hI.row.lt r e).1)
          exact hwg.grown hgs hwg.size (fun r e => by cases e; omega)
    have HFIN := Lib.hid hfin
    clear hW q1 q2 q4 hy ht hx hfc hI hsn hown2 hnews hnb keep3 x3 x1 hown3 hg3 ho3 hb2 hfin
    gi_wp2
    refine region_inRound (by kernel_rfl) (by kernel_rfl) ?_
    repeat' (first
      | (with_reducible exact AllReadyIn.nil)
      | ((with_reducible (show wpAnyIn _ _ _ _ _ _ _ _ _ _)); first
        | (refine wpAnyIn_done (by decide +kernel) ?_ _)
        | (refine wpAnyIn_take (i := 1) (v := .string t) rfl rfl (by decide +kernel) (by decide +kernel) (by decide +kernel) (fun _ _ _ h => h) ⟨Or.inl ⟨by rfl, by intro w; go_simp⟩, fun _ => rfl⟩ ?_)
        | (refine wpAnyIn_take (i := 6) (v := .int .i64 (xn : Int)) rfl rfl (by decide +kernel) (by decide +kernel) (by decide +kernel) (fun _ _ _ h => h) ⟨Or.inl ⟨by rfl, by intro w; go_simp⟩, fun _ => rfl⟩ ?_)
        | (refine wpAnyIn_take (i := 3) (v := .pointer (some ⟨p, 0, none⟩)) rfl rfl (by decide +kernel) (by decide +kernel) (by decide +kernel) (fun _ _ _ h => h) ⟨Or.inl ⟨by rfl, by intro w; go_simp⟩, fun _ => rfl⟩ ?_)
        | (refine wpAnyIn_take (i := 4) (v := .pointer (some ⟨p, 4, none⟩)) rfl rfl (by decide +kernel) (by decide +kernel) (by decide +kernel) (fun _ _ _ h => h) ⟨Or.inl ⟨by rfl, by intro w; go_simp⟩, fun _ => rfl⟩ ?_)
        | (refine wpAnyIn_take (i := 9) (v := .agg #[.string t, .string y]) rfl rfl (by decide +kernel) (by decide +kernel) (by decide +kernel) (fun _ _ _ h => h) ⟨Or.inl ⟨by rfl, by intro w; go_simp⟩, fun _ => rfl⟩ ?_)
        | (refine wpAnyIn_ready (rs := [0, 2]) (by decide +kernel) (by simp) ?_)
        | (refine wpAnyIn_ready (rs := [0, 5]) (by decide +kernel) (by simp) ?_)
        | (refine wpAnyIn_ready (rs := [0, 7]) (by decide +kernel) (by simp) ?_)
        | (refine wpAnyIn_ready (rs := [0, 8]) (by decide +kernel) (by simp) ?_)
        | (refine wpAnyIn_ready (rs := [0, 10]) (by decide +kernel) (by simp) ?_)
        | (refine wpAnyIn_ready (rs := [0]) (by decide +kernel) (by simp) ?_)
        | (refine wpAnyIn_ready (rs := [2]) (by decide +kernel) (by simp) ?_)
        | (refine wpAnyIn_ready (rs := [5]) (by decide +kernel) (by simp) ?_)
        | (refine wpAnyIn_ready (rs := [7]) (by decide +kernel) (by simp) ?_)
        | (refine wpAnyIn_ready (rs := [8]) (by decide +kernel) (by simp) ?_)
        | (refine wpAnyIn_ready (rs := [10]) (by decide +kernel) (by simp) ?_)
        | (refine wpAnyIn_ready (rs := [11]) (by decide +kernel) (by simp) ?_)
        | (refine wpAnyIn_ready (rs := [12]) (by decide +kernel) (by simp) ?_))
      | ((with_reducible (show AllReadyIn _ _ _ _ _ _ _ _ _ _ (11 :: _))); refine AllReadyIn.cons rfl (fun K hK => ?_) ?_; refine step_append_known (o := _) rfl (.tmp 12) (.tmp 22) 22 rfl (.slice ad k c) (.slice (some ⟨W.heap.size, 0, none⟩) 1 1) _ _ ?_ ?_ hrun (fun _ _ => trivial) ?_; exact rfl; exact rfl; refine hK _ _ ?_; clear hK K)
      | ((with_reducible (show AllReadyIn _ _ _ _ _ _ _ _ _ _ (8 :: _))); refine AllReadyIn.cons rfl (fun K hK => ?_) ?_; go_simp; gi_wp2_with (refine ⟨trivial, ?_⟩; gi_at_call 88; go_loud (refine Q4.out.mono ?_; rintro e w3 ⟨rfl, rfl⟩)); try (refine hK _ _ ?_; clear hK K))
      | ((with_reducible (show AllReadyIn _ _ _ _ _ _ _ _ _ _ (_ :: _))); refine AllReadyIn.cons rfl (fun K hK => ?_) ?_; go_simp; refine hK _ _ ?_; clear hK K)
      | ((with_reducible (show AllReadyIn _ _ _ _ _ _ _ _ _ _ _)); exact AllReadyIn.nil))
    all_goals
      gi_wp2
      exact HFIN.out
  case done =>
    subst hb1
    rintro D ⟨k, lv⟩ W hD hfin hI hK _
    have hk : k = S.fold.there.length := Nat.le_antisymm hI.le hfin
    subst hk
    have k3 : W.cell? ⟨b3, 0, none⟩ = some lv := hI.box.cell
    have hrow : W.ownsRow w.heap.size 26 2 lv S.fold.there.length (filesC (filesT S (S.fold.there.take S.fold.there.length))) := hI.row
    rw [List.take_length] at hrow
    obtain ⟨ad, c, hlv⟩ := ownsSlice hrow
    have hlv : lv = .slice ad S.fold.there.length c := hlv
    subst hlv
    have hbw := hI.below
    have hbz := hbw.size
    clear hI
    gi_wp2
    have hg := grownBy_putObj' W D (.deferred none)
    refine ⟨by simp, .inl ⟨_, _, rfl, run_takeDeferred hK, ?_⟩⟩
    refine ⟨_, results_tmp rfl _ _ _, _, rfl, ?_, hbw.grown hg hbw.size (fun k e => by cases e; omega)⟩
    have hrow' : W.ownsRow w.heap.size 26 2 (.slice ad S.fold.there.length c) (filesT S S.fold.there).length (filesC (filesT S S.fold.there)) := by
      rw [show (filesT S S.fold.there).length = S.fold.there.length from List.length_map ..]
      exact hrow
    refine owns_same hrow' fun g hg' => hg.block g (hrow.lt g hg').2 fun e => ?_
    have e := Option.some.inj e
    subst e
    rcases hrow.2 with ⟨e, h0⟩ | ⟨g', cap, cur, e, hbg, hg2, _⟩
    · rw [e] at hg'; cases hg'
    · rw [e] at hg'
      cases hg'
      rw [hK] at hg2
      cases hg2
  case stop => exact fun D c W hD hX hK => hX.elim

theorem files_up {S : DS} (h : S.down = false) : S.files = filesT S S.fold.there := by unfold DS.files; rw [h]; rfl
theorem files_off {S : DS} (h : S.down = true) : S.files = [] := by unfold DS.files; rw [h]; rfl

set_option maxHeartbeats 2000000 in
set_option maxRecDepth 100000 in
theorem files_down {w : World} {p : Nat} {S : DS} {v : DV} (h : DiskP w p S v) (hd : S.down = true) :
    Calls Tryz.prog 28 #[.pointer (some ⟨p, 0, none⟩)] w fun e w' => e = .returned (.slice none 0 0) ∧ Below w.heap.size w w' := by
  have b1 : Below w.heap.size w (w.alloc (.cells #[.pointer (some ⟨p, 0, none⟩)] 27)) := (Below.refl _ w).alloc (Nat.le_refl _) _
  have QD := Lib.hid (hd ▸ down_any (h.below b1))
  clear h
  go_enter Tryz.func28, Tryz.ntmps28
  go_wp2_with (go_at_call 32; (with_reducible refine QD.out.mono ?_); rintro e w' ⟨rfl, rfl⟩)
  go_ret
  exact ⟨rfl, b1⟩

theorem disk_files {w : World} {p : Nat} {S : DS} {v : DV} (h : DiskP w p S v) (hl : S.fold.weight ≤ 80000) :
    Calls Tryz.prog 28 #[.pointer (some ⟨p, 0, none⟩)] w fun e w' => ∃ r, e = .returned r ∧ w'.ownsRow w.heap.size 26 2 r S.files.length (filesC S.files) ∧ Below w.heap.size w w' := by
  cases hd : S.down with
  | true =>
    rw [files_off hd]
    exact (files_down h hd).mono fun e w' ⟨he, hb⟩ => ⟨_, he, World.ownsRow_nil _ _ _ _, hb⟩
  | false =>
    rw [files_up hd]
    exact callsIn_wide.1 (files_in 6 (Nat.le_refl _) h hd hl)
end Go.Proofs.YtmmoilmfpiclgaaGreat

/-
  Remove of a disk in memory. Rename of a disk in memory.
-/
import Derived.Test.YtmmoilmfpiclgaaGreatT26
set_option linter.unusedVariables false
set_option linter.unusedSimpArgs false
namespace Go.Proofs.YtmmoilmfpiclgaaGreat
open Go.RowKit Go.Shelf
open Fld (FS Names FAct actsOn foundN foundB findT withT withoutT GoodN Rising mayB nam nameMax FolderS FolderIn ARow)

/-- The folder's find, at a disk. -/
theorem fold_find {w : World} {p u : Nat} {S : DS} {v : DV} {fv lv : Value} {lost : List Nat} {armed : Nat} {P : Nat → Option Nat} (h : DiskIn w p S u v fv lv lost armed P) (s : ByteArray) (hs : s.size ≤ nameMax) :
    Calls Tryz.prog 83 #[.pointer (some ⟨p, 0, none⟩), .string s] w fun e w' => e = .returned (.tuple #[.int .i64 (foundN S.fold.there s.data.toList : Nat), .bool (foundB S.fold.there s.data.toList)]) ∧ w = w' :=
  @Fld.find_any (fin _) _ _ _ _ _ _ _ _ _ h.fold s hs

theorem fold_remove {w : World} {p u : Nat} {S : DS} {v : DV} {fv lv : Value} {lost : List Nat} {armed : Nat} {P : Nat → Option Nat} (h : DiskIn w p S u v fv lv lost armed P) (hp : Parts w v.M v.I) (s : ByteArray) (hs : s.size ≤ nameMax) (hl : S.fold.weight ≤ 90000) :
    Calls Tryz.prog 87 #[.pointer (some ⟨p, 0, none⟩), .string s] w fun e w' => e = .returned (.int .i64 ((S.fold.remove s).2 : Nat)) ∧
      ∃ v', DiskIn w' p { S with fold := (S.fold.remove s).1 } u v' fv lv lost armed P ∧ Parts w' v'.M v'.I ∧ v.To w w' v' := by
  refine (@Fld.remove_any (fin _) _ _ _ _ _ _ _ h.fold s hs hl).mono ?_
  rintro e w' ⟨rfl, h2⟩
  have hn : S.fold.n ≤ (S.fold.remove s).1.n := by
    rcases remove_ways S.fold s with ⟨_, e⟩ | ⟨_, e, _⟩
    · rw [e]; exact Nat.le_refl _
    · rw [e]; exact Nat.le_refl _
  obtain ⟨v', k1, k2, k3, _⟩ := h.folded hp h2 hn
  exact ⟨rfl, v', k1, k2, k3⟩

theorem fold_rename {w : World} {p u : Nat} {S : DS} {v : DV} {fv lv : Value} {lost : List Nat} {armed : Nat} {P : Nat → Option Nat} (h : DiskIn w p S u v fv lv lost armed P) (hp : Parts w v.M v.I) (a b : ByteArray) (ha : a.size ≤ nameMax) (hb : b.size ≤ nameMax) (hl : S.fold.weight ≤ 90000) (hg : S.fold.good) :
    Calls Tryz.prog 84 #[.pointer (some ⟨p, 0, none⟩), .string a, .string b] w fun e w' => e = .returned (.int .i64 ((S.fold.rename a b).2 : Nat)) ∧
      ∃ v', DiskIn w' p { S with fold := (S.fold.rename a b).1 } u v' fv lv lost armed P ∧ Parts w' v'.M v'.I ∧ v.To w w' v' := by
  have hf : foundN S.fold.there a.data.toList ≤ 100000 := by
    have h1 := hg.there.found a.data.toList
    have h4 : S.fold.n ≤ S.fold.weight := Nat.le_add_left _ _
    omega
  refine (@Fld.rename_any (fin _) _ _ _ _ _ _ _ h.fold a b ha hb hl hf).mono ?_
  rintro e w' ⟨rfl, h2⟩
  have hn : S.fold.n ≤ (S.fold.rename a b).1.n := by
    rcases rename_ways S.fold a b with e | e | ⟨_, _, e, _⟩
    · rw [e]; exact Nat.le_refl _
    · rw [e]; exact Nat.le_refl _
    · rw [e]; exact Nat.le_refl _
  obtain ⟨v', k1, k2, k3, _⟩ := h.folded hp h2 hn
  exact ⟨rfl, v', k1, k2, k3⟩

/-- The disk whose name is gone: the file that had it is taken for lost. -/
theorem gone_lose {w W : World} {p x : Nat} {S : DS} {v v1 : DV} {fv lv : Value} {lost : List Nat} {armed : Nat} {P : Nat → Option Nat} {F : FS} (h : DiskP w p S v) (_h1 : DiskIn w p S S.used v fv lv lost armed P) (hkn : KnownIn S.fold lost P) (hl : S.fold.weight ≤ 80000) (hu : S.used ≤ 100000000000000)
    (hF : F.good) (hn : F.n = S.fold.n) (hA : F.A.length = S.fold.A.length + 1) (hK : Known F fun n => ∃ b, P n = some b) (hx : ∃ b, P x = some b) (hxn : x ≤ S.fold.n) (hgone : ∀ y ∈ lost, ∀ q ∈ F.there, q.2 ≠ y) (hgx : ∀ q ∈ F.there, q.2 ≠ x)
    (hus : ({ S with fold := F } : DS).used + (S.file x).R.length = S.used)
    (a1 : DiskIn W p { S with fold := F } S.used v1 fv lv lost armed P) (a2 : Parts W v1.M v1.I) (a3 : v.To w W v1) :
    Calls Tryz.prog 85 #[.pointer (some ⟨p, 0, none⟩), .int .i64 (x : Int)] W fun e w' => e = .returned (.tuple #[]) ∧ WentK w p v { S with fold := F } w' := by
  obtain ⟨b, hb⟩ := hx
  have hlw : lost.length ≤ 100000 := by
    have h4 : S.fold.A.length ≤ S.fold.weight := by unfold Fld.FS.weight; omega
    have := hkn.2.2
    omega
  have hnw : F.n ≤ 100000 := by
    have h4 : S.fold.n ≤ S.fold.weight := Nat.le_add_left _ _
    omega
  refine (lose_any a1 a2 hb hnw (by show (S.file x).R.length ≤ S.used; omega) (by omega) (by omega)).mono ?_
  rintro e w' ⟨rfl, lv', v', c1, c2, c3⟩
  have e1 : S.used - (S.file x).R.length = ({ S with fold := F } : DS).used := by omega
  refine ⟨rfl, v', ⟨⟨fv, lv', lost ++ [x], armed, P, ?_, hK, fun y hy => ?_, ?_⟩, hF, c2, h.room⟩, a3.trans (fun b hb => h.rowLt hb) c3⟩
  · rw [← e1]; exact c1
  · rcases List.mem_append.1 hy with hy | hy
    · exact ⟨by show y ≤ F.n; rw [hn]; exact (hkn.2.1 y hy).1, hgone y hy⟩
    · rw [List.mem_singleton.1 hy]
      exact ⟨by show x ≤ F.n; rw [hn]; exact hxn, hgx⟩
  · show (lost ++ [x]).length ≤ F.A.length
    rw [List.length_append, hA]
    exact Nat.succ_le_succ hkn.2.2

set_option maxHeartbeats 2000000 in
set_option maxRecDepth 100000 in
theorem remove1_any {w : World} {p bd bn : Nat} {S : DS} {v : DV} (h : DiskP w p S v) (s : ByteArray) (hs : s.size ≤ nameMax) (hl : S.fold.weight ≤ 80000) (hu : S.used ≤ 100000000000000)
    (hbd : w.heap[bd]? = some (.cells #[.pointer (some ⟨p, 0, none⟩)] 27 (0, 0))) (hbn : w.heap[bn]? = some (.cells #[.string s] 9 (0, 0))) (nd : ∀ k, ¬ v.M k bd) :
    Calls Tryz.prog 86 #[.pointer (some ⟨bd, 0, none⟩), .pointer (some ⟨bn, 0, none⟩)] w fun e w' => e = .returned (.int .i64 (((S.remove0 s).2 : Nat) : Int)) ∧ WentK w p v (S.remove0 s).1 w' := by
  obtain ⟨fv, lv, lost, armed, P, h1, hkn⟩ := h.it
  have kd : w.cell? ⟨bd, 0, none⟩ = some (.pointer (some ⟨p, 0, none⟩)) := by rw [cell_of_row w bd 0 _ _ _ hbd]; rfl
  have kn : w.cell? ⟨bn, 0, none⟩ = some (.string s) := by rw [cell_of_row w bn 0 _ _ _ hbn]; rfl
  have q0 : ∀ W, Below w.heap.size w W → _ := fun W hb => fold_find (h1.below h.parts hb).1 s hs
  have q : ∀ W, Below w.heap.size w W → _ := fun W hb => fold_remove (h1.below h.parts hb).1 (h1.below h.parts hb).2.1 s hs (by omega)
  have tq : ∀ W w1 v1, Below w.heap.size w W → v.To W w1 v1 → v.To w w1 v1 := fun W w1 v1 hb t => (h1.below h.parts hb).2.2.trans (fun b hb => h.rowLt hb) t
  have hdl := (Array.getElem?_eq_some_iff.1 hbd).1
  have HB := Lib.hid (fun W v1 (t : v.To w W v1) => (show W.cell? ⟨bd, 0, none⟩ = some (.pointer (some ⟨p, 0, none⟩)) by
    rw [cell_of_row W bd 0 _ _ _ (t.block hbd nd)]; rfl))
  show Calls _ _ _ _ fun e w' => e = .returned (.int .i64 (((S.fold.remove s).2 : Nat) : Int)) ∧ WentK w p v { S with fold := (S.fold.remove s).1 } w'
  obtain ⟨fb, hfb⟩ : ∃ fb, foundB S.fold.there s.data.toList = fb := ⟨_, rfl⟩
  obtain ⟨x, hx⟩ : ∃ x, foundN S.fold.there s.data.toList = x := ⟨_, rfl⟩
  rw [hfb, hx] at q0
  by_cases e0 : (S.fold.remove s).2 = 0
  · have hf := remove_found e0
    have hr := Fld.foundB_true hf h.good.there.rising
    obtain ⟨rA, rn⟩ := remove_A S.fold s e0
    have HP := Lib.hid (fun W v1 => @gone_lose w W p x S v v1 fv lv lost armed P (S.fold.remove s).1 h h1 hkn hl hu (Fld.good_remove h.good s) rn rA (known_remove hkn.1 s) (hx ▸ hkn.1.there _ hr) (hx ▸ (h.good.there.range _ hr).2) (fun y hy => gone_remove s (hkn.2.1 y hy).2) (hx ▸ gone_removed h.good s e0) (hx ▸ used_remove h.good S.file s e0))
    rw [e0] at q ⊢
    have Q0 := Lib.hid q0
    have Q := Lib.hid q
    have TQ := Lib.hid tq
    clear q tq q0 hkn h1 h hbd hbn nd e0 hs hl hu hf hr rA rn hx hfb
    go_enter Tryz.func86, Tryz.ntmps86
    go_upto_region 1 with fail
    go_region_with (go_at_call 83; (with_reducible refine (Q0.out _ (drewB w)).mono ?_); rintro e w1 ⟨rfl, rfl⟩)
    all_goals trace "GOAL"
    all_goals
      go_upto_region 2 with fail
      go_region_with (go_at_call 87; (with_reducible refine (Q.out _ (drewB w).drew).mono ?_); rintro e w1 ⟨rfl, v1, k1, k2, k3⟩; have k3 := TQ.out _ _ _ (drewB w).drew k3; have kd1 := HB.out _ _ k3)
    all_goals trace "GOAL2"
    all_goals
      go_wp2_with (go_at_call 85; (with_reducible refine (HP.out _ _ k1 k2 k3).mono ?_); rintro e w3 ⟨rfl, hW⟩)
      go_ret
      exact ⟨rfl, hW⟩
  · have ef := remove_bad e0
    rw [ef] at q ⊢
    obtain ⟨er, her⟩ : ∃ er, (S.fold.remove s).2 = er := ⟨_, rfl⟩
    rw [her] at q e0 ⊢
    have hz : ((er : Int) == 0) = false := by simpa using e0
    have HW := Lib.hid (fun W1 v1 (a1 : DiskIn W1 p { S with fold := S.fold } S.used v1 fv lv lost armed P) (a2 : Parts W1 v1.M v1.I) (a3 : v.To w W1 v1) => (show WentK w p v { S with fold := S.fold } W1 from ⟨v1, ⟨⟨_, _, _, _, _, a1, hkn⟩, h.good, a2, h.room⟩, a3⟩))
    have Q0 := Lib.hid q0
    have Q := Lib.hid q
    have TQ := Lib.hid tq
    clear q tq q0 hkn h1 h hbd hbn nd e0 hs hl hu her ef hx hfb
    go_enter Tryz.func86, Tryz.ntmps86
    go_upto_region 1 with fail
    go_region_with (go_at_call 83; (with_reducible refine (Q0.out _ (drewB w)).mono ?_); rintro e w1 ⟨rfl, rfl⟩)
    all_goals
      go_upto_region 2 with fail
      go_region_with (go_at_call 87; (with_reducible refine (Q.out _ (drewB w).drew).mono ?_); rintro e w1 ⟨rfl, v1, k1, k2, k3⟩; have k3 := TQ.out _ _ _ (drewB w).drew k3)
    all_goals
      go_wp2
      go_ret
      exact ⟨rfl, HW.out _ _ k1 k2 k3⟩
end Go.Proofs.YtmmoilmfpiclgaaGreat
namespace Go.Proofs.YtmmoilmfpiclgaaGreat
open Go.RowKit Go.Shelf
open Fld (FS Names FAct actsOn foundN foundB findT withT withoutT GoodN Rising mayB nam nameMax FolderS FolderIn ARow)

theorem rename_stays {w W : World} {p : Nat} {S : DS} {v v1 : DV} {fv lv : Value} {lost : List Nat} {armed : Nat} {P : Nat → Option Nat} (h : DiskP w p S v) (hkn : KnownIn S.fold lost P) (a b : ByteArray) (e0 : (S.fold.rename a b).2 = 0) (hb : foundB S.fold.there b.data.toList = false ∨ a = b)
    (a1 : DiskIn W p { S with fold := (S.fold.rename a b).1 } S.used v1 fv lv lost armed P) (a2 : Parts W v1.M v1.I) (a3 : v.To w W v1) : WentK w p v { S with fold := (S.fold.rename a b).1 } W := by
  obtain ⟨rA, rn⟩ := rename_A S.fold a b e0
  have hus : ({ S with fold := (S.fold.rename a b).1 } : DS).used = S.used := used_rename_new h.good S.file a b e0 hb
  refine ⟨v1, ⟨⟨fv, lv, lost, armed, P, by rw [hus]; exact a1, known_rename hkn.1 h.good.there.rising a b, fun y hy => ⟨by show y ≤ (S.fold.rename a b).1.n; rw [rn]; exact (hkn.2.1 y hy).1, gone_rename h.good a b (hkn.2.1 y hy).2⟩, ?_⟩, Fld.good_rename h.good a b, a2, h.room⟩, a3⟩
  show lost.length ≤ (S.fold.rename a b).1.A.length
  rw [rA]
  exact Nat.le_succ_of_le hkn.2.2

set_option maxHeartbeats 4000000 in
set_option maxRecDepth 100000 in
theorem rename1_walk {w : World} {p bd bb ba x er : Nat} {fb ne : Bool} {a b : ByteArray} {G1 : World → Prop} {R : World → Prop}
    (kd : w.cell? ⟨bd, 0, none⟩ = some (.pointer (some ⟨p, 0, none⟩))) (kb : w.cell? ⟨bb, 0, none⟩ = some (.string b)) (ka : w.cell? ⟨ba, 0, none⟩ = some (.string a)) (hne : (!(a.toList == b.toList)) = ne)
    (q0 : Calls Tryz.prog 83 #[.pointer (some ⟨p, 0, none⟩), .string b] w.drew fun e w' => e = .returned (.tuple #[.int .i64 (x : Nat), .bool fb]) ∧ w.drew = w')
    (q1 : Calls Tryz.prog 84 #[.pointer (some ⟨p, 0, none⟩), .string a, .string b] w.drew.drew fun e w' => e = .returned (.int .i64 (er : Nat)) ∧ G1 w')
    (h1 : ∀ W, G1 W → W.cell? ⟨bd, 0, none⟩ = some (.pointer (some ⟨p, 0, none⟩)) ∧ W.cell? ⟨bb, 0, none⟩ = some (.string b) ∧ W.cell? ⟨ba, 0, none⟩ = some (.string a))
    (q2 : er = 0 → fb = true → ne = true → ∀ W, G1 W → Calls Tryz.prog 85 #[.pointer (some ⟨p, 0, none⟩), .int .i64 (x : Int)] W fun e w' => e = .returned (.tuple #[]) ∧ R w')
    (q3 : (er ≠ 0 ∨ fb = false ∨ ne = false) → ∀ W, G1 W → R W) :
    Calls Tryz.prog 82 #[.pointer (some ⟨bd, 0, none⟩), .pointer (some ⟨bb, 0, none⟩), .pointer (some ⟨ba, 0, none⟩)] w fun e w' => e = .returned (.int .i64 (er : Nat)) ∧ R w' := by
  have H1 := Lib.hid h1
  have Q2 := Lib.hid q2
  have Q3 := Lib.hid q3
  clear h1 q2 q3
  go_enter Tryz.func82, Tryz.ntmps82
  go_upto_region 1 with fail
  go_cut [4, 5] from 7 to 14 (fun s4 s5 wx => s4 = .int .i64 (x : Nat) ∧ s5 = .bool fb ∧ w.drew = wx)
  case first =>
    go_region_with (go_at_call 83; (with_reducible refine q0.mono ?_); rintro e w1 ⟨rfl, rfl⟩)
    all_goals
      go_wp2
      go_meet
      exact ⟨rfl, rfl, rfl⟩
  case rest =>
  obtain ⟨rfl, rfl, rfl⟩ := hcut
  go_upto_region 2 with fail
  go_cut [6] from 15 to 20 (fun s6 wx => s6 = .int .i64 (er : Nat) ∧ G1 wx)
  case first =>
    go_region_with (go_at_call 84; (with_reducible refine q1.mono ?_); rintro e w1 ⟨rfl, hg⟩)
    all_goals
      go_wp2
      go_meet
      exact ⟨rfl, hg⟩
  case rest =>
  obtain ⟨rfl, hg⟩ := hcut
  clear q0 q1 kd kb ka
  obtain ⟨kd, kb, ka⟩ := H1.out _ hg
  have hg2 : er = 0 → fb = true → ne = true → _ := fun e1 e2 e3 => Q2.out e1 e2 e3 _ hg
  have hg3 : (er ≠ 0 ∨ fb = false ∨ ne = false) → _ := fun e => Q3.out e _ hg
  clear H1 Q2 Q3 hg
  rcases Nat.eq_zero_or_pos er with rfl | hp
  · cases fb
    · have HR := Lib.hid (hg3 (.inr (.inl rfl)))
      clear hg2 hg3
      go_wp2_with fail
      go_ret
      exact ⟨rfl, HR.out⟩
    · cases ne
      · have HR := Lib.hid (hg3 (.inr (.inr rfl)))
        clear hg2 hg3
        go_wp2_with fail
        go_ret
        exact ⟨rfl, HR.out⟩
      · have HQ := Lib.hid (hg2 rfl rfl rfl)
        clear hg2 hg3
        go_wp2_with (go_at_call 85; (with_reducible refine HQ.out.mono ?_); rintro e w3 ⟨rfl, hW⟩)
        go_ret
        exact ⟨rfl, hW⟩
  · have HR := Lib.hid (hg3 (.inl (by omega)))
    have hz : ((er : Int) == 0) = false := by simp; omega
    clear hg2 hg3
    go_wp2_with fail
    go_ret
    exact ⟨rfl, HR.out⟩

theorem rename1_any {w : World} {p bd bb ba : Nat} {S : DS} {v : DV} (h : DiskP w p S v) (a b : ByteArray) (ha : a.size ≤ nameMax) (hb : b.size ≤ nameMax) (hl : S.fold.weight ≤ 80000) (hu : S.used ≤ 100000000000000)
    (hbd : w.heap[bd]? = some (.cells #[.pointer (some ⟨p, 0, none⟩)] 27 (0, 0))) (hbb : w.heap[bb]? = some (.cells #[.string b] 9 (0, 0))) (hba : w.heap[ba]? = some (.cells #[.string a] 9 (0, 0)))
    (nd : ∀ k, ¬ v.M k bd) (nb : ∀ k, ¬ v.M k bb) (na : ∀ k, ¬ v.M k ba) :
    Calls Tryz.prog 82 #[.pointer (some ⟨bd, 0, none⟩), .pointer (some ⟨bb, 0, none⟩), .pointer (some ⟨ba, 0, none⟩)] w fun e w' => e = .returned (.int .i64 (((S.rename0 a b).2 : Nat) : Int)) ∧ WentK w p v (S.rename0 a b).1 w' := by
  obtain ⟨fv, lv, lost, armed, P, h1, hkn⟩ := h.it
  have cl : ∀ {bx : Nat} {x : Value} {T : TypeId} {W : World}, W.heap[bx]? = some (.cells #[x] T (0, 0)) → W.cell? ⟨bx, 0, none⟩ = some x := fun {bx x T W} e => by rw [cell_of_row W bx 0 _ _ _ e]; rfl
  have hrow := fun b hb => h.rowLt (b := b) hb
  have d1 := h1.below h.parts (drewB w)
  have d2 := h1.below h.parts (drewB w).drew
  show Calls _ _ _ _ fun e w' => e = .returned (.int .i64 (((S.fold.rename a b).2 : Nat) : Int)) ∧ WentK w p v { S with fold := (S.fold.rename a b).1 } w'
  refine rename1_walk (ne := !(a.toList == b.toList)) (G1 := fun W => ∃ v', DiskIn W p { S with fold := (S.fold.rename a b).1 } S.used v' fv lv lost armed P ∧ Parts W v'.M v'.I ∧ v.To w W v') (x := foundN S.fold.there b.data.toList) (fb := foundB S.fold.there b.data.toList) (er := (S.fold.rename a b).2)
    (cl hbd) (cl hbb) (cl hba) rfl (fold_find d1.1 b hb) ((fold_rename d2.1 d2.2.1 a b ha hb (by omega) h.good).mono fun e w' ⟨he, v', k1, k2, k3⟩ => ⟨he, v', k1, k2, d2.2.2.trans hrow k3⟩) (fun W ⟨v', _, _, k3⟩ => ⟨cl (k3.block hbd nd), cl (k3.block hbb nb), cl (k3.block hba na)⟩) ?_ ?_
  · rintro e0 hf hne W ⟨v', k1, k2, k3⟩
    have hr := Fld.foundB_true hf h.good.there.rising
    obtain ⟨rA, rn⟩ := rename_A S.fold a b e0
    have hab : a ≠ b := fun e => by subst e; simp at hne
    exact gone_lose h h1 hkn hl hu (Fld.good_rename h.good a b) rn rA (known_rename hkn.1 h.good.there.rising a b) (hkn.1.there _ hr) (h.good.there.range _ hr).2 (fun y hy => gone_rename h.good a b (hkn.2.1 y hy).2) (gone_over h.good a b e0 hf hab) (used_rename_over h.good S.file a b e0 hf hab) k1 k2 k3
  · rintro hx W ⟨v', k1, k2, k3⟩
    by_cases e0 : (S.fold.rename a b).2 = 0
    · refine rename_stays h hkn a b e0 ?_ k1 k2 k3
      rcases hx with hx | hx | hx
      · exact absurd e0 hx
      · exact .inl hx
      · refine .inr (ba_same ?_)
        have : (a.toList == b.toList) = true := by simpa using hx
        have h2 : a.toList = b.toList := by simpa using this
        rw [ByteArray.toList_eq, ByteArray.toList_eq] at h2
        exact h2
    · have ef := rename_bad e0
      rw [ef] at k1 ⊢
      exact ⟨v', ⟨⟨_, _, _, _, _, k1, hkn⟩, h.good, k2, h.room⟩, k3⟩
end Go.Proofs.YtmmoilmfpiclgaaGreat

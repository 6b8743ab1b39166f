/-
  DiskArmed: the walk.
-/
import Derived.Test.YtmmoilmfpiclgaaGreatG33
namespace Go.Proofs.YtmmoilmfpiclgaaGreat
open Go.RowKit Go.Shelf
open Fld (FS Names FAct actsOn foundN foundB findT withT withoutT GoodN Rising mayB nam nameMax FolderS FolderIn ARow textsOf)

theorem succ_small {s s' : Nat} (h : s + 1 = s') (h2 : s' ≤ 1000) : (s : Int) + 1 = (s' : Int) ∧ wrap64 ((s : Int) + 1) = (s' : Int) ∧ IntKind.i64.wrap ((s : Int) + 1) = (s' : Int) := by
  have t1 : (s : Int) + 1 = (s' : Int) := by omega
  refine ⟨t1, by unfold wrap64; omega, ?_⟩
  rw [t1]
  exact IntWalk.i64_in _ (by omega)

set_option maxHeartbeats 20000000 in
set_option maxRecDepth 100000 in
theorem diskArmed_walk (l : List Deed) (v : Value) (n : Nat) (hn : n ≤ 255) (w : World) (hl : Deeds w v l) (hok : ∀ d ∈ l, d.ok) :
    Calls Tryz.prog 5 #[v, .int .u8 (n : Int)] w fun e w' => e = .returned (.bool true) ∧ Below w.heap.size w w' := by
  obtain ⟨ad, cp, rfl, hc⟩ := hl
  have HC : Hid (∀ W, Below w.heap.size w W → ∀ i, i < l.length → (l.getD i default).ok ∧ ∃ b o, ad = some ⟨b, o, none⟩ ∧ DeedAt W b (o + i * 6) (l.getD i default)) := Lib.hid fun W hW i hi => by
    obtain ⟨b, o, ha, hlt, hd⟩ := hc i hi
    exact ⟨hok _ (by simp [List.getD, hi]), b, o, ha, hd.below hW hlt⟩
  have HW := Lib.hid (works_any w)
  have QN := Lib.hid (show ∀ W, Below w.heap.size w W → Calls Tryz.prog 9 #[.int .i64 200] W fun e w' => ∃ p, e = .returned (.pointer (some ⟨p, 0, none⟩)) ∧ Flock w w' 0 [(p, DS.new 200)] from fun W hb => flock_new ((flock_nil w).next hb) 200 (by decide))
  have QM := Lib.hid (show ∀ W p, Flock w W 0 [(p, DS.new 200)] → Calls Tryz.prog 9 #[.int .i64 200] W fun e w' => ∃ q, e = .returned (.pointer (some ⟨q, 0, none⟩)) ∧ Flock w w' 0 [(p, DS.new 200), (q, DS.new 200)] from fun W p h => flock_new h 200 (by decide))
  have QA := Lib.hid (show ∀ W p q (A : Nat), A ≤ 20 → Flock w W 0 [(p, DS.new 200), (q, DS.new 200)] → Calls Tryz.prog 31 #[.pointer (some ⟨p, 0, none⟩), .int .i64 (A : Int)] W fun e w' => e = .returned (.tuple #[]) ∧ Flock w w' 0 [(p, (DS.new 200).arm (A : Int)), (q, DS.new 200)] from fun W p q A hA h => flock_arm h 0 (by simp) (Nat.le_refl _) (A : Int) (by omega))
  clear hc hok
  have m20 : (n : Int).tmod 20 = ((n % 20 : Nat) : Int) := by rw [Int.tmod_eq_emod_of_nonneg (by omega)]; omega
  have m20' : (n : Int) % 20 = ((n % 20 : Nat) : Int) := by omega
  obtain ⟨x, hx⟩ : ∃ x, n % 20 = x := ⟨_, rfl⟩
  rw [hx] at m20 m20'
  have hx20 : x < 20 := by omega
  clear hx
  obtain ⟨A, hA⟩ : ∃ A : Nat, 1 + x = A := ⟨_, rfl⟩
  have s1 : (1 : Int) + (x : Int) = (A : Int) := by omega
  have s2 : wrap64 ((1 : Int) + (x : Int)) = (A : Int) := by unfold wrap64; omega
  have s3 : IntKind.i64.wrap ((1 : Int) + (x : Int)) = (A : Int) := by rw [s1]; exact IntWalk.i64_in _ (by omega)
  have hA1 : 1 ≤ A := by omega
  have hA2 : A ≤ 20 := by omega
  have HA := Lib.hid hA
  clear hA
  go_enter Tryz.func5, Tryz.ntmps5
  go_wp2_with (first
    | (go_at_call 17; go_must (with_reducible refine HW.out.mono ?_); rintro e w1 ⟨rfl, hq⟩; have B1 := Lib.hid hq; clear hq)
    | (go_at_call 9; first
      | ((with_reducible refine (QM.out _ _ D1.out).mono ?_); rintro e w3 ⟨q, rfl, hq⟩; have D2 := Lib.hid hq; clear hq)
      | ((with_reducible refine (QN.out _ B1.out).mono ?_); rintro e w2 ⟨p, rfl, hq⟩; have D1 := Lib.hid hq; clear hq))
    | (go_at_call 31; go_must (with_reducible refine (QA.out _ _ _ _ hA2 D2.out).mono ?_); rintro e w4 ⟨rfl, hq⟩; have D3 := Lib.hid hq; clear hq))
  clear QN QM QA HW m20 m20' s1 s2 s3 HA hx20 D1 D2 B1
  go_loopw [8, 9] (fun s8 s9 wr => ∃ (k s m : Nat) (S T : DS), k ≤ 30 ∧ k ≤ l.length ∧ s9 = .int .i64 k ∧ s8 = .int .i64 s ∧ s + m = A ∧ PairM S T k m ∧ Flock w wr 0 [(p, S), (q, T)]) (fun _ s9 _ => 30 - (intOf s9).toNat)
  case atStart => exact ⟨0, 0, A, _, _, by omega, Nat.zero_le _, rfl, rfl, by omega, pairM_new hA1, D3.out⟩
  case round =>
    obtain ⟨k, s, m, S, T, hk, hkl, rfl, rfl, hsm, hp, hs⟩ := hrel
    have HS := Lib.hid hs
    have HP := Lib.hid hp
    clear hs hp D3
    by_cases hlk : k < l.length ∧ k < 30
    · obtain ⟨hlt, h30⟩ := hlk
      obtain ⟨⟨ok0, ok1, ok2, ok3, ok4, ok5, ok6⟩, b, o, rfl, c0, c1, c2, c3, c4, c5⟩ := HC.out _ HS.out.below k hlt
      obtain ⟨⟨what, a, b', raw, nn, lv⟩, hx⟩ : ∃ d, l.getD k default = d := ⟨_, rfl⟩
      rw [hx] at c0 c1 c2 c3 c4 c5 ok0 ok1 ok2 ok3 ok4 ok5 ok6
      simp only at c0 c1 c2 c3 c4 c5 ok0 ok1 ok2 ok3 ok4 ok5 ok6
      have HNM := Lib.hid (fun W => named_any ⟨what, a, b', raw, nn, lv⟩ ok6 a ok1 W)
      obtain ⟨al, an, ac, rfl⟩ := ok6
      have hlt' : (k : Int) < (l.length : Int) := by omega
      have e1 : decide ((k : Int) < (l.length : Int)) = true := decide_eq_true (by omega)
      have e1' : decide (k < l.length) = true := decide_eq_true hlt
      have e2 : decide ((k : Int) < 30) = true := decide_eq_true (by omega)
      have e2' : decide (k < 30) = true := decide_eq_true h30
      have hxs := nameD_size ok3 a
      obtain ⟨nm, hnm⟩ : ∃ nm, nameD raw a = nm := ⟨_, rfl⟩
      rw [hnm] at hxs
      have HNM' := HNM.out
      unfold Deed.vals at HNM'
      dsimp only at HNM'
      rw [hnm] at HNM'
      clear hx HC hnm HNM
      go_upto_region 13 with fail
      obtain ⟨W1, hW1⟩ : ∃ W1, wr.alloc (.cells #[.int .u8 (what : Int), .int .u8 (a : Int), .int .u8 (b' : Int), .string raw, .int .i16 nn, .slice al an ac] 35) = W1 := ⟨_, rfl⟩
      have hxh := heap_alloc_new wr (.cells #[.int .u8 (what : Int), .int .u8 (a : Int), .int .u8 (b' : Int), .string raw, .int .i16 nn, .slice al an ac] 35)
      have h1x := HS.out.boxed (.cells #[.int .u8 (what : Int), .int .u8 (a : Int), .int .u8 (b' : Int), .string raw, .int .i16 nn, .slice al an ac] 35)
      rw [hW1] at hxh h1x ⊢
      obtain ⟨xb, hxb⟩ : ∃ xb, wr.heap.size = xb := ⟨_, rfl⟩
      rw [hxb] at hxh h1x ⊢
      have HX0 : Hid (∀ W : World, W.heap[xb]? = some (Obj.cells #[.int .u8 (what : Int), .int .u8 (a : Int), .int .u8 (b' : Int), .string raw, .int .i16 nn, .slice al an ac] 35 (0, 0)) → W.cell? ⟨xb, 0, none⟩ = some (.int .u8 (what : Int))) := Lib.hid fun W h => by rw [cell_of_row W xb 0 _ _ _ h]; rfl
      have HX3 : Hid (∀ W : World, W.heap[xb]? = some (Obj.cells #[.int .u8 (what : Int), .int .u8 (a : Int), .int .u8 (b' : Int), .string raw, .int .i16 nn, .slice al an ac] 35 (0, 0)) → W.cell? ⟨xb, 3, none⟩ = some (.string raw)) := Lib.hid fun W h => by rw [cell_of_row W xb 3 _ _ _ h]; rfl
      have d0 : W1.cell? ⟨xb, 0, none⟩ = some (.int .u8 (what : Int)) := by rw [cell_of_row W1 xb 0 _ _ _ hxh]; rfl
      have d1 : W1.cell? ⟨xb, 1, none⟩ = some (.int .u8 (a : Int)) := by rw [cell_of_row W1 xb 1 _ _ _ hxh]; rfl
      have d2 : W1.cell? ⟨xb, 2, none⟩ = some (.int .u8 (b' : Int)) := by rw [cell_of_row W1 xb 2 _ _ _ hxh]; rfl
      have d3 : W1.cell? ⟨xb, 3, none⟩ = some (.string raw) := by rw [cell_of_row W1 xb 3 _ _ _ hxh]; rfl
      have d4 : W1.cell? ⟨xb, 4, none⟩ = some (.int .i16 nn) := by rw [cell_of_row W1 xb 4 _ _ _ hxh]; rfl
      have d5 : W1.cell? ⟨xb, 5, none⟩ = some (.slice al an ac) := by rw [cell_of_row W1 xb 5 _ _ _ hxh]; rfl
      obtain ⟨ob, hob⟩ : ∃ ob, (Obj.cells #[.int .u8 (what : Int), .int .u8 (a : Int), .int .u8 (b' : Int), .string raw, .int .i16 nn, .slice al an ac] 35 (0, 0)) = ob := ⟨_, rfl⟩
      rw [hob] at h1x HX0 HX3
      have H1 := Lib.hid h1x
      have HN := Lib.hid HNM'
      have hraw : raw.size ≤ 140737488355328 := Nat.le_trans ok3 (by decide)
      clear c0 c1 c2 c3 c4 c5 HS hW1 hxh hxb h1x HNM' hob
      rcases m with _ | m
      · obtain ⟨x1, x2, x3, hp'⟩ := pairM_down HP.out nm raw.data.toList
        have z1 := sized_create HP.out.left nm
        have z2 := sized_append z1 nm raw.data.toList
        have hdn : (((S.create nm).1.append nm raw.data.toList).1.sync nm).1.down = true := hp'.mated.down
        have hdnS : S.down = true := HP.out.mated.down
        have QD := Lib.hid (show ∀ W, FlockX w W 0 [(p, S), (q, T)] xb ob → Calls Tryz.prog 32 #[.pointer (some ⟨p, 0, none⟩)] W fun e w' => e = .returned (.bool true) ∧ W = w' from fun W h => h.read 0 (by simp) fun v hv => (down_any hv).mono fun e w' ⟨he, hw⟩ => ⟨by rw [he]; exact congrArg (fun k : Bool => Ending.returned (.bool k)) hdnS, hw⟩)
        have QC := Lib.hid (show ∀ W, FlockX w W 0 [(p, S), (q, T)] xb ob → Calls Tryz.prog 12 #[.pointer (some ⟨p, 0, none⟩), .string nm] W fun e w' => e = .returned (.int .i64 13) ∧ FlockX w w' 0 [(p, (S.create nm).1), (q, T)] xb ob from fun W h =>
          (boxed_create h 0 (by simp) (Nat.le_refl _) (HP.out.fitS (by omega)) nm hxs).mono fun e w' ⟨he, hw⟩ => ⟨by rw [he]; exact congrArg (fun k : Nat => Ending.returned (.int .i64 (k : Int))) x1, hw⟩)
        have QA := Lib.hid (show ∀ W, FlockX w W 0 [(p, (S.create nm).1), (q, T)] xb ob → Calls Tryz.prog 13 #[.pointer (some ⟨p, 0, none⟩), .string nm, .slice (some ⟨W.heap.size, 0, none⟩) 1 1] (W.alloc (.cells #[.string raw] 9)) fun e w' => e = .returned (.int .i64 13) ∧ FlockX w w' 0 [(p, ((S.create nm).1.append nm raw.data.toList).1), (q, T)] xb ob from fun W h =>
          (boxed_append1 h 0 (by simp) (Nat.le_refl _) (z1.fit (by omega) (by omega) (by decide)) nm raw hxs hraw).mono fun e w' ⟨he, hw⟩ => ⟨by rw [he]; exact congrArg (fun k : Nat => Ending.returned (.int .i64 (k : Int))) x2, hw⟩)
        have QY := Lib.hid (show ∀ W, FlockX w W 0 [(p, ((S.create nm).1.append nm raw.data.toList).1), (q, T)] xb ob → Calls Tryz.prog 22 #[.pointer (some ⟨p, 0, none⟩), .string nm] W fun e w' => e = .returned (.int .i64 13) ∧ FlockX w w' 0 [(p, (((S.create nm).1.append nm raw.data.toList).1.sync nm).1), (q, T)] xb ob from fun W h =>
          (boxed_sync h 0 (by simp) (Nat.le_refl _) (z2.fit (by omega) (by omega) (by decide)) nm hxs).mono fun e w' ⟨he, hw⟩ => ⟨by rw [he]; exact congrArg (fun k : Nat => Ending.returned (.int .i64 (k : Int))) x3, hw⟩)
        have HP' := Lib.hid hp'
        obtain ⟨S1, hS1⟩ : ∃ S1, (S.create nm).1 = S1 := ⟨_, rfl⟩
        obtain ⟨S2, hS2⟩ : ∃ S2, (S1.append nm raw.data.toList).1 = S2 := ⟨_, rfl⟩
        obtain ⟨S3, hS3⟩ : ∃ S3, (S2.sync nm).1 = S3 := ⟨_, rfl⟩
        rw [hS1] at QC QA QY HP' hdn
        rw [hS2] at QA QY HP' hdn
        rw [hS3] at QY HP' hdn
        have QL := Lib.hid (show ∀ W, FlockX w W 0 [(p, S3), (q, T)] xb ob → Calls Tryz.prog 33 #[.pointer (some ⟨p, 0, none⟩)] W fun e w' => (∃ ad c, e = .returned (.slice ad 0 c)) ∧ FlockX w w' 0 [(p, S3), (q, T)] xb ob from fun W h =>
          h.read 0 (by simp) fun v hv => (disk_list hv (Nat.le_trans (HP'.out.fitS (by omega)).weight (by decide))).mono fun e w' ⟨x, he, hx, hb⟩ => ⟨by
            have hx' : w'.ownsRow W.heap.size 9 1 x S3.listed.length (S3.listed.map Value.string) := hx
            rw [show S3.listed = [] by unfold DS.listed; rw [hdn, if_pos rfl]] at hx'
            obtain ⟨ad, c, e1⟩ := ownsSlice hx'
            exact ⟨ad, c, he.trans (congrArg _ e1)⟩, h.next hb⟩)
        have QU := Lib.hid (show ∀ W, FlockX w W 0 [(p, S3), (q, T)] xb ob → Calls Tryz.prog 19 #[.pointer (some ⟨p, 0, none⟩)] W fun e w' => e = .returned (.int .i64 0) ∧ W = w' from fun W h => h.read 0 (by simp) fun v hv => (used_any hv).mono fun e w' ⟨he, hw⟩ => ⟨by rw [he]; exact congrArg (fun k : Nat => Ending.returned (.int .i64 (k : Int))) (show S3.usedD = 0 by unfold DS.usedD; rw [hdn, if_pos rfl]), hw⟩)
        have QZ := Lib.hid (show ∀ W, FlockX w W 0 [(p, S3), (q, T)] xb ob → Calls Tryz.prog 34 #[.pointer (some ⟨p, 0, none⟩), .string nm] W fun e w' => e = .returned (.tuple #[.int .i64 0, .int .i64 13]) ∧ W = w' from fun W h => h.read 0 (by simp) fun v hv => (disk_size hv nm hxs (HP'.out.fitS (by omega)).n).mono fun e w' ⟨he, hw⟩ => ⟨by rw [he]; exact congrArg (fun k : Nat × Nat => Ending.returned (.tuple #[.int .i64 (k.1 : Int), .int .i64 (k.2 : Int)])) (show S3.size nm = (0, 13) by unfold DS.size; rw [hdn, if_pos rfl]), hw⟩)
        have e3 : decide ((s : Int) = (A : Int)) = true := decide_eq_true (by omega)
        have e3' : decide (s = A) = true := decide_eq_true (by omega)
        have hsA : s = A := by omega
        subst hsA
        clear x1 x2 x3 z1 z2 hdn hdnS hS1 hS2 hS3 hp' hraw ok3 hxs
        go_wp2_with (first
          | (go_at_call 18; go_must (with_reducible refine (HN.out _).mono ?_); rintro e w5 ⟨rfl, hb⟩; have H5 := Lib.hid (H1.out.next hb); clear hb d0 d1 d2 d3 d4 d5)
          | (go_at_call 32; go_must (with_reducible refine (QD.out _ H5.out).mono ?_); rintro e w6 ⟨rfl, rfl⟩)
          | (go_at_call 12; go_must (with_reducible refine (QC.out _ H5.out).mono ?_); rintro e w7 ⟨rfl, hq⟩; have k3 := HX3.out _ hq.box; have H7 := Lib.hid hq; clear hq)
          | (go_at_call 13; go_must (with_reducible refine (QA.out _ H7.out).mono ?_); rintro e w8 ⟨rfl, hq⟩; have H8 := Lib.hid hq; clear hq)
          | (go_at_call 22; go_must (with_reducible refine (QY.out _ H8.out).mono ?_); rintro e w9 ⟨rfl, hq⟩; have H9 := Lib.hid hq; clear hq)
          | (go_at_call 33; go_must (with_reducible refine (QL.out _ H9.out).mono ?_); rintro e w10 ⟨⟨al1, cl1, rfl⟩, hq⟩; have H10 := Lib.hid hq; clear hq)
          | (go_at_call 19; go_must (with_reducible refine (QU.out _ H10.out).mono ?_); rintro e w11 ⟨rfl, rfl⟩)
          | (go_at_call 34; go_must (with_reducible refine (QZ.out _ H10.out).mono ?_); rintro e w12 ⟨rfl, rfl⟩))
        exact ⟨⟨k + 1, s, 0, S3, T, by omega, by omega, by go_num, rfl, by omega, HP'.out, H10.out.flock⟩, by simp [intOf]; omega⟩
      · obtain ⟨s', hs'⟩ : ∃ s', s + 1 = s' := ⟨_, rfl⟩
        have HT := Lib.hid (succ_small hs' (by omega))
        have e3 : decide ((s : Int) = (A : Int)) = false := decide_eq_false (by omega)
        have e3' : decide (s = A) = false := decide_eq_false (by omega)
        have hsne : s ≠ A := by omega
        have e3b : ((s : Int) == (A : Int)) = false := beq_eq_false_iff_ne.2 (by omega)
        have e3c : (s == A) = false := beq_eq_false_iff_ne.2 hsne
        have m4 : (what : Int).tmod 4 = ((what % 4 : Nat) : Int) := by rw [Int.tmod_eq_emod_of_nonneg (by omega)]; omega
        have m4' : (what : Int) % 4 = ((what % 4 : Nat) : Int) := by omega
        have hc4 : what % 4 = 0 ∨ what % 4 = 1 ∨ what % 4 = 2 ∨ what % 4 = 3 := by omega
        obtain ⟨c, hc⟩ : ∃ c, what % 4 = c := ⟨_, rfl⟩
        rw [hc] at m4 m4' hc4
        clear hc
        rcases m with _ | m
        · have e4 : decide ((s' : Int) < (A : Int)) = false := decide_eq_false (by omega)
          have e4' : decide (s' < A) = false := decide_eq_false (by omega)
          have e5 : decide ((s' : Int) = (A : Int)) = true := decide_eq_true (by omega)
          have e5' : decide (s' = A) = true := decide_eq_true (by omega)
          have e5b : ((s' : Int) == (A : Int)) = true := beq_iff_eq.2 (by omega)
          have e5c : (s' == A) = true := beq_iff_eq.2 (by omega)
          have x := pairM_stop HP.out nm raw.data.toList
          have fS := HP.out.fitS (show k ≤ 31 by omega)
          clear HP
          rcases hc4 with rfl | rfl | rfl | rfl
          · obtain ⟨x1, hp'⟩ := x.1
            have QP := Lib.hid (show ∀ W, FlockX w W 0 [(p, S), (q, T)] xb ob → Calls Tryz.prog 12 #[.pointer (some ⟨p, 0, none⟩), .string nm] W fun e w' => e = .returned (.int .i64 13) ∧ FlockX w w' 0 [(p, (S.create nm).1), (q, T)] xb ob from fun W h =>
            (boxed_create h 0 (by simp) (Nat.zero_le _) fS nm hxs).mono fun e w' ⟨he, hw⟩ => ⟨by rw [he]; exact congrArg (fun k : Nat => Ending.returned (.int .i64 (k : Int))) x1, hw⟩)
            have HP' := Lib.hid hp'
            have hdn : (S.create nm).1.down = true := hp'.mated.down
            obtain ⟨S1, hS1⟩ : ∃ S1, (S.create nm).1 = S1 := ⟨_, rfl⟩
            rw [hS1] at QP HP' hdn
            have QD := Lib.hid (show ∀ W, FlockX w W 0 [(p, S1), (q, T)] xb ob → Calls Tryz.prog 32 #[.pointer (some ⟨p, 0, none⟩)] W fun e w' => e = .returned (.bool true) ∧ W = w' from fun W h => h.read 0 (by simp) fun v hv => (down_any hv).mono fun e w' ⟨he, hw⟩ => ⟨by rw [he]; exact congrArg (fun k : Bool => Ending.returned (.bool k)) hdn, hw⟩)
            clear x x1 hdn hS1 hp' hraw ok3 hxs fS
            have HSM := Lib.hid (And.intro hs' hsm)
            clear hs' hsm
            obtain ⟨-, t2, -⟩ := HT.out
            go_wp2_with (first
              | (go_at_call 18; go_must (with_reducible refine (HN.out _).mono ?_); rintro e w5 ⟨rfl, hb⟩; have hq := H1.out.next hb; have k0 := HX0.out _ hq.box; have k3 := HX3.out _ hq.box; have H5 := Lib.hid hq; clear hb hq d0 d1 d2 d3 d4 d5)
              | (go_at_call 12; go_must (with_reducible refine (QP.out _ H5.out).mono ?_); rintro e w6 ⟨rfl, hq⟩; have H6 := Lib.hid hq; clear hq)
              | (go_at_call 32; go_must (with_reducible refine (QD.out _ H6.out).mono ?_); rintro e w7 ⟨rfl, rfl⟩))
            clear t2
            obtain ⟨hs', hsm⟩ := HSM.out
            exact ⟨⟨k + 1, s', 0, S1, T, by omega, by omega, by go_num, rfl, by omega, HP'.out, H6.out.flock⟩, by simp [intOf]; omega⟩
          · obtain ⟨x1, hp'⟩ := x.2.1
            have QP := Lib.hid (show ∀ W, FlockX w W 0 [(p, S), (q, T)] xb ob → Calls Tryz.prog 27 #[.pointer (some ⟨p, 0, none⟩), .string nm] W fun e w' => e = .returned (.int .i64 13) ∧ FlockX w w' 0 [(p, (S.remove nm).1), (q, T)] xb ob from fun W h =>
            (boxed_remove h 0 (by simp) (Nat.zero_le _) fS nm hxs).mono fun e w' ⟨he, hw⟩ => ⟨by rw [he]; exact congrArg (fun k : Nat => Ending.returned (.int .i64 (k : Int))) x1, hw⟩)
            have HP' := Lib.hid hp'
            have hdn : (S.remove nm).1.down = true := hp'.mated.down
            obtain ⟨S1, hS1⟩ : ∃ S1, (S.remove nm).1 = S1 := ⟨_, rfl⟩
            rw [hS1] at QP HP' hdn
            have QD := Lib.hid (show ∀ W, FlockX w W 0 [(p, S1), (q, T)] xb ob → Calls Tryz.prog 32 #[.pointer (some ⟨p, 0, none⟩)] W fun e w' => e = .returned (.bool true) ∧ W = w' from fun W h => h.read 0 (by simp) fun v hv => (down_any hv).mono fun e w' ⟨he, hw⟩ => ⟨by rw [he]; exact congrArg (fun k : Bool => Ending.returned (.bool k)) hdn, hw⟩)
            clear x x1 hdn hS1 hp' hraw ok3 hxs fS
            have HSM := Lib.hid (And.intro hs' hsm)
            clear hs' hsm
            obtain ⟨-, t2, -⟩ := HT.out
            go_wp2_with (first
              | (go_at_call 18; go_must (with_reducible refine (HN.out _).mono ?_); rintro e w5 ⟨rfl, hb⟩; have hq := H1.out.next hb; have k0 := HX0.out _ hq.box; have k3 := HX3.out _ hq.box; have H5 := Lib.hid hq; clear hb hq d0 d1 d2 d3 d4 d5)
              | (go_at_call 27; go_must (with_reducible refine (QP.out _ H5.out).mono ?_); rintro e w6 ⟨rfl, hq⟩; have H6 := Lib.hid hq; clear hq)
              | (go_at_call 32; go_must (with_reducible refine (QD.out _ H6.out).mono ?_); rintro e w7 ⟨rfl, rfl⟩))
            clear t2
            obtain ⟨hs', hsm⟩ := HSM.out
            exact ⟨⟨k + 1, s', 0, S1, T, by omega, by omega, by go_num, rfl, by omega, HP'.out, H6.out.flock⟩, by simp [intOf]; omega⟩
          · obtain ⟨x1, hp'⟩ := x.2.2.1
            have QP := Lib.hid (show ∀ W, FlockX w W 0 [(p, S), (q, T)] xb ob → Calls Tryz.prog 24 #[.pointer (some ⟨p, 0, none⟩)] W fun e w' => e = .returned (.int .i64 13) ∧ FlockX w w' 0 [(p, (S.syncDir).1), (q, T)] xb ob from fun W h =>
            (boxed_syncDir h 0 (by simp) (Nat.zero_le _) fS).mono fun e w' ⟨he, hw⟩ => ⟨by rw [he]; exact congrArg (fun k : Nat => Ending.returned (.int .i64 (k : Int))) x1, hw⟩)
            have HP' := Lib.hid hp'
            have hdn : (S.syncDir).1.down = true := hp'.mated.down
            obtain ⟨S1, hS1⟩ : ∃ S1, (S.syncDir).1 = S1 := ⟨_, rfl⟩
            rw [hS1] at QP HP' hdn
            have QD := Lib.hid (show ∀ W, FlockX w W 0 [(p, S1), (q, T)] xb ob → Calls Tryz.prog 32 #[.pointer (some ⟨p, 0, none⟩)] W fun e w' => e = .returned (.bool true) ∧ W = w' from fun W h => h.read 0 (by simp) fun v hv => (down_any hv).mono fun e w' ⟨he, hw⟩ => ⟨by rw [he]; exact congrArg (fun k : Bool => Ending.returned (.bool k)) hdn, hw⟩)
            clear x x1 hdn hS1 hp' hraw ok3 hxs fS
            have HSM := Lib.hid (And.intro hs' hsm)
            clear hs' hsm
            obtain ⟨-, t2, -⟩ := HT.out
            go_wp2_with (first
              | (go_at_call 18; go_must (with_reducible refine (HN.out _).mono ?_); rintro e w5 ⟨rfl, hb⟩; have hq := H1.out.next hb; have k0 := HX0.out _ hq.box; have k3 := HX3.out _ hq.box; have H5 := Lib.hid hq; clear hb hq d0 d1 d2 d3 d4 d5)
              | (go_at_call 24; go_must (with_reducible refine (QP.out _ H5.out).mono ?_); rintro e w6 ⟨rfl, hq⟩; have H6 := Lib.hid hq; clear hq)
              | (go_at_call 32; go_must (with_reducible refine (QD.out _ H6.out).mono ?_); rintro e w7 ⟨rfl, rfl⟩))
            clear t2
            obtain ⟨hs', hsm⟩ := HSM.out
            exact ⟨⟨k + 1, s', 0, S1, T, by omega, by omega, by go_num, rfl, by omega, HP'.out, H6.out.flock⟩, by simp [intOf]; omega⟩
          · obtain ⟨x1, hp'⟩ := x.2.2.2
            have QP := Lib.hid (show ∀ W, FlockX w W 0 [(p, S), (q, T)] xb ob → Calls Tryz.prog 13 #[.pointer (some ⟨p, 0, none⟩), .string nm, .slice (some ⟨W.heap.size, 0, none⟩) 1 1] (W.alloc (.cells #[.string raw] 9)) fun e w' => e = .returned (.int .i64 13) ∧ FlockX w w' 0 [(p, (S.append nm raw.data.toList).1), (q, T)] xb ob from fun W h =>
            (boxed_append1 h 0 (by simp) (Nat.zero_le _) fS nm raw hxs hraw).mono fun e w' ⟨he, hw⟩ => ⟨by rw [he]; exact congrArg (fun k : Nat => Ending.returned (.int .i64 (k : Int))) x1, hw⟩)
            have HP' := Lib.hid hp'
            have hdn : (S.append nm raw.data.toList).1.down = true := hp'.mated.down
            obtain ⟨S1, hS1⟩ : ∃ S1, (S.append nm raw.data.toList).1 = S1 := ⟨_, rfl⟩
            rw [hS1] at QP HP' hdn
            have QD := Lib.hid (show ∀ W, FlockX w W 0 [(p, S1), (q, T)] xb ob → Calls Tryz.prog 32 #[.pointer (some ⟨p, 0, none⟩)] W fun e w' => e = .returned (.bool true) ∧ W = w' from fun W h => h.read 0 (by simp) fun v hv => (down_any hv).mono fun e w' ⟨he, hw⟩ => ⟨by rw [he]; exact congrArg (fun k : Bool => Ending.returned (.bool k)) hdn, hw⟩)
            clear x x1 hdn hS1 hp' hraw ok3 hxs fS
            have HSM := Lib.hid (And.intro hs' hsm)
            clear hs' hsm
            obtain ⟨-, t2, -⟩ := HT.out
            go_wp2_with (first
              | (go_at_call 18; go_must (with_reducible refine (HN.out _).mono ?_); rintro e w5 ⟨rfl, hb⟩; have hq := H1.out.next hb; have k0 := HX0.out _ hq.box; have k3 := HX3.out _ hq.box; have H5 := Lib.hid hq; clear hb hq d0 d1 d2 d3 d4 d5)
              | (go_at_call 13; go_must (with_reducible refine (QP.out _ H5.out).mono ?_); rintro e w6 ⟨rfl, hq⟩; have H6 := Lib.hid hq; clear hq)
              | (go_at_call 32; go_must (with_reducible refine (QD.out _ H6.out).mono ?_); rintro e w7 ⟨rfl, rfl⟩))
            clear t2
            obtain ⟨hs', hsm⟩ := HSM.out
            exact ⟨⟨k + 1, s', 0, S1, T, by omega, by omega, by go_num, rfl, by omega, HP'.out, H6.out.flock⟩, by simp [intOf]; omega⟩
        · have e4 : decide ((s' : Int) < (A : Int)) = true := decide_eq_true (by omega)
          have e4' : decide (s' < A) = true := decide_eq_true (by omega)
          have e5 : decide ((s' : Int) = (A : Int)) = false := decide_eq_false (by omega)
          have e5' : decide (s' = A) = false := decide_eq_false (by omega)
          have e5b : ((s' : Int) == (A : Int)) = false := beq_eq_false_iff_ne.2 (by omega)
          have e5c : (s' == A) = false := beq_eq_false_iff_ne.2 (by omega)
          have hsne' : s' ≠ A := by omega
          have hlA : (s' : Int) < (A : Int) := by omega
          have x := pairM_go HP.out nm raw.data.toList
          have fS := HP.out.fitS (show k ≤ 31 by omega)
          have fT := HP.out.fitT (show k ≤ 31 by omega)
          clear HP
          rcases hc4 with rfl | rfl | rfl | rfl
          · obtain ⟨x1, hp'⟩ := x.1
            obtain ⟨r, hr⟩ : ∃ r, (T.create nm).2 = r := ⟨_, rfl⟩
            rw [hr] at x1
            have QP := Lib.hid (show ∀ W, FlockX w W 0 [(p, S), (q, T)] xb ob → Calls Tryz.prog 12 #[.pointer (some ⟨p, 0, none⟩), .string nm] W fun e w' => e = .returned (.int .i64 (r : Int)) ∧ FlockX w w' 0 [(p, (S.create nm).1), (q, T)] xb ob from fun W h =>
            (boxed_create h 0 (by simp) (Nat.zero_le _) fS nm hxs).mono fun e w' ⟨he, hw⟩ => ⟨by rw [he]; exact congrArg (fun k : Nat => Ending.returned (.int .i64 (k : Int))) x1, hw⟩)
            have QQ := Lib.hid (show ∀ W, FlockX w W 0 [(p, (S.create nm).1), (q, T)] xb ob → Calls Tryz.prog 12 #[.pointer (some ⟨q, 0, none⟩), .string nm] W fun e w' => e = .returned (.int .i64 (r : Int)) ∧ FlockX w w' 0 [(p, (S.create nm).1), (q, (T.create nm).1)] xb ob from fun W h =>
            (boxed_create h 1 (by simp) (Nat.zero_le _) fT nm hxs).mono fun e w' ⟨he, hw⟩ => ⟨by rw [he]; exact congrArg (fun k : Nat => Ending.returned (.int .i64 (k : Int))) hr, hw⟩)
            have HP' := Lib.hid hp'
            have hfe := hp'.mated.files
            have hdn : (S.create nm).1.down = false := hp'.mated.down.trans (decide_eq_false (by omega))
            obtain ⟨S1, hS1⟩ : ∃ S1, (S.create nm).1 = S1 := ⟨_, rfl⟩
            obtain ⟨T1, hT1⟩ : ∃ T1, (T.create nm).1 = T1 := ⟨_, rfl⟩
            rw [hS1] at QP QQ HP' hdn hfe
            rw [hT1] at QQ HP' hfe
            have QD := Lib.hid (show ∀ W, FlockX w W 0 [(p, S1), (q, T1)] xb ob → Calls Tryz.prog 32 #[.pointer (some ⟨p, 0, none⟩)] W fun e w' => e = .returned (.bool false) ∧ W = w' from fun W h => h.read 0 (by simp) fun v hv => (down_any hv).mono fun e w' ⟨he, hw⟩ => ⟨by rw [he]; exact congrArg (fun k : Bool => Ending.returned (.bool k)) hdn, hw⟩)
            obtain ⟨fl, hfl⟩ : ∃ fl, T1.files = fl := ⟨_, rfl⟩
            have hflN : fl.length ≤ 1000000 := by
              rw [← hfl]
              exact Nat.le_trans (files_length T1) (Nat.le_trans (Fld.FS.there_length T1.fold) (Nat.le_trans (HP'.out.fitT (by omega)).weight (by decide)))
            rw [hfl] at hfe
            have QF := Lib.hid (show ∀ W, FlockX w W 0 [(p, S1), (q, T1)] xb ob → Calls Tryz.prog 28 #[.pointer (some ⟨p, 0, none⟩)] W fun e w' => ∃ ad c, e = .returned (.slice ad fl.length c) ∧ FRow w' (.slice ad fl.length c) fl ∧ Below W.heap.size W w' from fun W h => by
              have q := flock_files h.flock 0 (by simp) (HP'.out.fitS (by omega))
              rw [← hfe]
              exact q)
            have QT := Lib.hid (show ∀ W, FlockX w W 0 [(p, S1), (q, T1)] xb ob → Calls Tryz.prog 28 #[.pointer (some ⟨q, 0, none⟩)] W fun e w' => ∃ ad c, e = .returned (.slice ad fl.length c) ∧ FRow w' (.slice ad fl.length c) fl ∧ Below W.heap.size W w' from fun W h => by
              have q := flock_files h.flock 1 (by simp) (HP'.out.fitT (by omega))
              rw [← hfl]
              exact q)
            have QS := Lib.hid (fun W (ad ad' : Option Addr) (c c' : Nat) h1 h2 => files_same fl (.slice ad fl.length c) (.slice ad' fl.length c') W h1 h2 hflN)
            clear x x1 hr hdn hS1 hT1 hp' hraw ok3 hxs fS fT hfe hfl hflN
            have HSM := Lib.hid (And.intro hs' hsm)
            clear hs' hsm
            obtain ⟨-, t2, -⟩ := HT.out
            go_wp2_with (first
              | (go_at_call 18; go_must (with_reducible refine (HN.out _).mono ?_); rintro e w5 ⟨rfl, hb⟩; have hq := H1.out.next hb; have k0 := HX0.out _ hq.box; have k3 := HX3.out _ hq.box; have H5 := Lib.hid hq; clear hb hq d0 d1 d2 d3 d4 d5)
              | (go_at_call 12; first
                | ((with_reducible refine (QQ.out _ H6.out).mono ?_); rintro e w7 ⟨rfl, hq⟩; have H7 := Lib.hid hq; clear hq)
                | ((with_reducible refine (QP.out _ H5.out).mono ?_); rintro e w6 ⟨rfl, hq⟩; have k3' := HX3.out _ hq.box; have H6 := Lib.hid hq; clear hq))
              | (go_at_call 32; go_must (with_reducible refine (QD.out _ H7.out).mono ?_); rintro e w8 ⟨rfl, rfl⟩)
              | (go_at_call 28; first
                | ((with_reducible refine (QT.out _ H8.out).mono ?_); rintro e w9 ⟨af2, cf2, rfl, hr, hb⟩; have F2 := Lib.hid hr; have F1' := Lib.hid (F1.out.below hb); have H9 := Lib.hid (H8.out.next hb); clear hr hb)
                | ((with_reducible refine (QF.out _ H7.out).mono ?_); rintro e w8 ⟨af1, cf1, rfl, hr, hb⟩; have F1 := Lib.hid hr; have H8 := Lib.hid (H7.out.next hb); clear hr hb))
              | (go_at_call 29; go_must (with_reducible refine (QS.out _ _ _ _ _ F1'.out F2.out).mono ?_); rintro e w10 ⟨rfl, hb⟩; have H10 := Lib.hid (H9.out.next hb); clear hb))
            clear t2
            obtain ⟨hs', hsm⟩ := HSM.out
            exact ⟨⟨k + 1, s', m + 1, S1, T1, by omega, by omega, by go_num, rfl, by omega, HP'.out, H10.out.flock⟩, by simp [intOf]; omega⟩
          · obtain ⟨x1, hp'⟩ := x.2.1
            obtain ⟨r, hr⟩ : ∃ r, (T.remove nm).2 = r := ⟨_, rfl⟩
            rw [hr] at x1
            have QP := Lib.hid (show ∀ W, FlockX w W 0 [(p, S), (q, T)] xb ob → Calls Tryz.prog 27 #[.pointer (some ⟨p, 0, none⟩), .string nm] W fun e w' => e = .returned (.int .i64 (r : Int)) ∧ FlockX w w' 0 [(p, (S.remove nm).1), (q, T)] xb ob from fun W h =>
            (boxed_remove h 0 (by simp) (Nat.zero_le _) fS nm hxs).mono fun e w' ⟨he, hw⟩ => ⟨by rw [he]; exact congrArg (fun k : Nat => Ending.returned (.int .i64 (k : Int))) x1, hw⟩)
            have QQ := Lib.hid (show ∀ W, FlockX w W 0 [(p, (S.remove nm).1), (q, T)] xb ob → Calls Tryz.prog 27 #[.pointer (some ⟨q, 0, none⟩), .string nm] W fun e w' => e = .returned (.int .i64 (r : Int)) ∧ FlockX w w' 0 [(p, (S.remove nm).1), (q, (T.remove nm).1)] xb ob from fun W h =>
            (boxed_remove h 1 (by simp) (Nat.zero_le _) fT nm hxs).mono fun e w' ⟨he, hw⟩ => ⟨by rw [he]; exact congrArg (fun k : Nat => Ending.returned (.int .i64 (k : Int))) hr, hw⟩)
            have HP' := Lib.hid hp'
            have hfe := hp'.mated.files
            have hdn : (S.remove nm).1.down = false := hp'.mated.down.trans (decide_eq_false (by omega))
            obtain ⟨S1, hS1⟩ : ∃ S1, (S.remove nm).1 = S1 := ⟨_, rfl⟩
            obtain ⟨T1, hT1⟩ : ∃ T1, (T.remove nm).1 = T1 := ⟨_, rfl⟩
            rw [hS1] at QP QQ HP' hdn hfe
            rw [hT1] at QQ HP' hfe
            have QD := Lib.hid (show ∀ W, FlockX w W 0 [(p, S1), (q, T1)] xb ob → Calls Tryz.prog 32 #[.pointer (some ⟨p, 0, none⟩)] W fun e w' => e = .returned (.bool false) ∧ W = w' from fun W h => h.read 0 (by simp) fun v hv => (down_any hv).mono fun e w' ⟨he, hw⟩ => ⟨by rw [he]; exact congrArg (fun k : Bool => Ending.returned (.bool k)) hdn, hw⟩)
            obtain ⟨fl, hfl⟩ : ∃ fl, T1.files = fl := ⟨_, rfl⟩
            have hflN : fl.length ≤ 1000000 := by
              rw [← hfl]
              exact Nat.le_trans (files_length T1) (Nat.le_trans (Fld.FS.there_length T1.fold) (Nat.le_trans (HP'.out.fitT (by omega)).weight (by decide)))
            rw [hfl] at hfe
            have QF := Lib.hid (show ∀ W, FlockX w W 0 [(p, S1), (q, T1)] xb ob → Calls Tryz.prog 28 #[.pointer (some ⟨p, 0, none⟩)] W fun e w' => ∃ ad c, e = .returned (.slice ad fl.length c) ∧ FRow w' (.slice ad fl.length c) fl ∧ Below W.heap.size W w' from fun W h => by
              have q := flock_files h.flock 0 (by simp) (HP'.out.fitS (by omega))
              rw [← hfe]
              exact q)
            have QT := Lib.hid (show ∀ W, FlockX w W 0 [(p, S1), (q, T1)] xb ob → Calls Tryz.prog 28 #[.pointer (some ⟨q, 0, none⟩)] W fun e w' => ∃ ad c, e = .returned (.slice ad fl.length c) ∧ FRow w' (.slice ad fl.length c) fl ∧ Below W.heap.size W w' from fun W h => by
              have q := flock_files h.flock 1 (by simp) (HP'.out.fitT (by omega))
              rw [← hfl]
              exact q)
            have QS := Lib.hid (fun W (ad ad' : Option Addr) (c c' : Nat) h1 h2 => files_same fl (.slice ad fl.length c) (.slice ad' fl.length c') W h1 h2 hflN)
            clear x x1 hr hdn hS1 hT1 hp' hraw ok3 hxs fS fT hfe hfl hflN
            have HSM := Lib.hid (And.intro hs' hsm)
            clear hs' hsm
            obtain ⟨-, t2, -⟩ := HT.out
            go_wp2_with (first
              | (go_at_call 18; go_must (with_reducible refine (HN.out _).mono ?_); rintro e w5 ⟨rfl, hb⟩; have hq := H1.out.next hb; have k0 := HX0.out _ hq.box; have k3 := HX3.out _ hq.box; have H5 := Lib.hid hq; clear hb hq d0 d1 d2 d3 d4 d5)
              | (go_at_call 27; first
                | ((with_reducible refine (QQ.out _ H6.out).mono ?_); rintro e w7 ⟨rfl, hq⟩; have H7 := Lib.hid hq; clear hq)
                | ((with_reducible refine (QP.out _ H5.out).mono ?_); rintro e w6 ⟨rfl, hq⟩; have k3' := HX3.out _ hq.box; have H6 := Lib.hid hq; clear hq))
              | (go_at_call 32; go_must (with_reducible refine (QD.out _ H7.out).mono ?_); rintro e w8 ⟨rfl, rfl⟩)
              | (go_at_call 28; first
                | ((with_reducible refine (QT.out _ H8.out).mono ?_); rintro e w9 ⟨af2, cf2, rfl, hr, hb⟩; have F2 := Lib.hid hr; have F1' := Lib.hid (F1.out.below hb); have H9 := Lib.hid (H8.out.next hb); clear hr hb)
                | ((with_reducible refine (QF.out _ H7.out).mono ?_); rintro e w8 ⟨af1, cf1, rfl, hr, hb⟩; have F1 := Lib.hid hr; have H8 := Lib.hid (H7.out.next hb); clear hr hb))
              | (go_at_call 29; go_must (with_reducible refine (QS.out _ _ _ _ _ F1'.out F2.out).mono ?_); rintro e w10 ⟨rfl, hb⟩; have H10 := Lib.hid (H9.out.next hb); clear hb))
            clear t2
            obtain ⟨hs', hsm⟩ := HSM.out
            exact ⟨⟨k + 1, s', m + 1, S1, T1, by omega, by omega, by go_num, rfl, by omega, HP'.out, H10.out.flock⟩, by simp [intOf]; omega⟩
          · obtain ⟨x1, hp'⟩ := x.2.2.1
            obtain ⟨r, hr⟩ : ∃ r, (T.syncDir).2 = r := ⟨_, rfl⟩
            rw [hr] at x1
            have QP := Lib.hid (show ∀ W, FlockX w W 0 [(p, S), (q, T)] xb ob → Calls Tryz.prog 24 #[.pointer (some ⟨p, 0, none⟩)] W fun e w' => e = .returned (.int .i64 (r : Int)) ∧ FlockX w w' 0 [(p, (S.syncDir).1), (q, T)] xb ob from fun W h =>
            (boxed_syncDir h 0 (by simp) (Nat.zero_le _) fS).mono fun e w' ⟨he, hw⟩ => ⟨by rw [he]; exact congrArg (fun k : Nat => Ending.returned (.int .i64 (k : Int))) x1, hw⟩)
            have QQ := Lib.hid (show ∀ W, FlockX w W 0 [(p, (S.syncDir).1), (q, T)] xb ob → Calls Tryz.prog 24 #[.pointer (some ⟨q, 0, none⟩)] W fun e w' => e = .returned (.int .i64 (r : Int)) ∧ FlockX w w' 0 [(p, (S.syncDir).1), (q, (T.syncDir).1)] xb ob from fun W h =>
            (boxed_syncDir h 1 (by simp) (Nat.zero_le _) fT).mono fun e w' ⟨he, hw⟩ => ⟨by rw [he]; exact congrArg (fun k : Nat => Ending.returned (.int .i64 (k : Int))) hr, hw⟩)
            have HP' := Lib.hid hp'
            have hfe := hp'.mated.files
            have hdn : (S.syncDir).1.down = false := hp'.mated.down.trans (decide_eq_false (by omega))
            obtain ⟨S1, hS1⟩ : ∃ S1, (S.syncDir).1 = S1 := ⟨_, rfl⟩
            obtain ⟨T1, hT1⟩ : ∃ T1, (T.syncDir).1 = T1 := ⟨_, rfl⟩
            rw [hS1] at QP QQ HP' hdn hfe
            rw [hT1] at QQ HP' hfe
            have QD := Lib.hid (show ∀ W, FlockX w W 0 [(p, S1), (q, T1)] xb ob → Calls Tryz.prog 32 #[.pointer (some ⟨p, 0, none⟩)] W fun e w' => e = .returned (.bool false) ∧ W = w' from fun W h => h.read 0 (by simp) fun v hv => (down_any hv).mono fun e w' ⟨he, hw⟩ => ⟨by rw [he]; exact congrArg (fun k : Bool => Ending.returned (.bool k)) hdn, hw⟩)
            obtain ⟨fl, hfl⟩ : ∃ fl, T1.files = fl := ⟨_, rfl⟩
            have hflN : fl.length ≤ 1000000 := by
              rw [← hfl]
              exact Nat.le_trans (files_length T1) (Nat.le_trans (Fld.FS.there_length T1.fold) (Nat.le_trans (HP'.out.fitT (by omega)).weight (by decide)))
            rw [hfl] at hfe
            have QF := Lib.hid (show ∀ W, FlockX w W 0 [(p, S1), (q, T1)] xb ob → Calls Tryz.prog 28 #[.pointer (some ⟨p, 0, none⟩)] W fun e w' => ∃ ad c, e = .returned (.slice ad fl.length c) ∧ FRow w' (.slice ad fl.length c) fl ∧ Below W.heap.size W w' from fun W h => by
              have q := flock_files h.flock 0 (by simp) (HP'.out.fitS (by omega))
              rw [← hfe]
              exact q)
            have QT := Lib.hid (show ∀ W, FlockX w W 0 [(p, S1), (q, T1)] xb ob → Calls Tryz.prog 28 #[.pointer (some ⟨q, 0, none⟩)] W fun e w' => ∃ ad c, e = .returned (.slice ad fl.length c) ∧ FRow w' (.slice ad fl.length c) fl ∧ Below W.heap.size W w' from fun W h => by
              have q := flock_files h.flock 1 (by simp) (HP'.out.fitT (by omega))
              rw [← hfl]
              exact q)
            have QS := Lib.hid (fun W (ad ad' : Option Addr) (c c' : Nat) h1 h2 => files_same fl (.slice ad fl.length c) (.slice ad' fl.length c') W h1 h2 hflN)
            clear x x1 hr hdn hS1 hT1 hp' hraw ok3 hxs fS fT hfe hfl hflN
            have HSM := Lib.hid (And.intro hs' hsm)
            clear hs' hsm
            obtain ⟨-, t2, -⟩ := HT.out
            go_wp2_with (first
              | (go_at_call 18; go_must (with_reducible refine (HN.out _).mono ?_); rintro e w5 ⟨rfl, hb⟩; have hq := H1.out.next hb; have k0 := HX0.out _ hq.box; have k3 := HX3.out _ hq.box; have H5 := Lib.hid hq; clear hb hq d0 d1 d2 d3 d4 d5)
              | (go_at_call 24; first
                | ((with_reducible refine (QQ.out _ H6.out).mono ?_); rintro e w7 ⟨rfl, hq⟩; have H7 := Lib.hid hq; clear hq)
                | ((with_reducible refine (QP.out _ H5.out).mono ?_); rintro e w6 ⟨rfl, hq⟩; have k3' := HX3.out _ hq.box; have H6 := Lib.hid hq; clear hq))
              | (go_at_call 32; go_must (with_reducible refine (QD.out _ H7.out).mono ?_); rintro e w8 ⟨rfl, rfl⟩)
              | (go_at_call 28; first
                | ((with_reducible refine (QT.out _ H8.out).mono ?_); rintro e w9 ⟨af2, cf2, rfl, hr, hb⟩; have F2 := Lib.hid hr; have F1' := Lib.hid (F1.out.below hb); have H9 := Lib.hid (H8.out.next hb); clear hr hb)
                | ((with_reducible refine (QF.out _ H7.out).mono ?_); rintro e w8 ⟨af1, cf1, rfl, hr, hb⟩; have F1 := Lib.hid hr; have H8 := Lib.hid (H7.out.next hb); clear hr hb))
              | (go_at_call 29; go_must (with_reducible refine (QS.out _ _ _ _ _ F1'.out F2.out).mono ?_); rintro e w10 ⟨rfl, hb⟩; have H10 := Lib.hid (H9.out.next hb); clear hb))
            clear t2
            obtain ⟨hs', hsm⟩ := HSM.out
            exact ⟨⟨k + 1, s', m + 1, S1, T1, by omega, by omega, by go_num, rfl, by omega, HP'.out, H10.out.flock⟩, by simp [intOf]; omega⟩
          · obtain ⟨x1, hp'⟩ := x.2.2.2
            obtain ⟨r, hr⟩ : ∃ r, (T.append nm raw.data.toList).2 = r := ⟨_, rfl⟩
            rw [hr] at x1
            have QP := Lib.hid (show ∀ W, FlockX w W 0 [(p, S), (q, T)] xb ob → Calls Tryz.prog 13 #[.pointer (some ⟨p, 0, none⟩), .string nm, .slice (some ⟨W.heap.size, 0, none⟩) 1 1] (W.alloc (.cells #[.string raw] 9)) fun e w' => e = .returned (.int .i64 (r : Int)) ∧ FlockX w w' 0 [(p, (S.append nm raw.data.toList).1), (q, T)] xb ob from fun W h =>
            (boxed_append1 h 0 (by simp) (Nat.zero_le _) fS nm raw hxs hraw).mono fun e w' ⟨he, hw⟩ => ⟨by rw [he]; exact congrArg (fun k : Nat => Ending.returned (.int .i64 (k : Int))) x1, hw⟩)
            have QQ := Lib.hid (show ∀ W, FlockX w W 0 [(p, (S.append nm raw.data.toList).1), (q, T)] xb ob → Calls Tryz.prog 13 #[.pointer (some ⟨q, 0, none⟩), .string nm, .slice (some ⟨W.heap.size, 0, none⟩) 1 1] (W.alloc (.cells #[.string raw] 9)) fun e w' => e = .returned (.int .i64 (r : Int)) ∧ FlockX w w' 0 [(p, (S.append nm raw.data.toList).1), (q, (T.append nm raw.data.toList).1)] xb ob from fun W h =>
            (boxed_append1 h 1 (by simp) (Nat.zero_le _) fT nm raw hxs hraw).mono fun e w' ⟨he, hw⟩ => ⟨by rw [he]; exact congrArg (fun k : Nat => Ending.returned (.int .i64 (k : Int))) hr, hw⟩)
            have HP' := Lib.hid hp'
            have hfe := hp'.mated.files
            have hdn : (S.append nm raw.data.toList).1.down = false := hp'.mated.down.trans (decide_eq_false (by omega))
            obtain ⟨S1, hS1⟩ : ∃ S1, (S.append nm raw.data.toList).1 = S1 := ⟨_, rfl⟩
            obtain ⟨T1, hT1⟩ : ∃ T1, (T.append nm raw.data.toList).1 = T1 := ⟨_, rfl⟩
            rw [hS1] at QP QQ HP' hdn hfe
            rw [hT1] at QQ HP' hfe
            have QD := Lib.hid (show ∀ W, FlockX w W 0 [(p, S1), (q, T1)] xb ob → Calls Tryz.prog 32 #[.pointer (some ⟨p, 0, none⟩)] W fun e w' => e = .returned (.bool false) ∧ W = w' from fun W h => h.read 0 (by simp) fun v hv => (down_any hv).mono fun e w' ⟨he, hw⟩ => ⟨by rw [he]; exact congrArg (fun k : Bool => Ending.returned (.bool k)) hdn, hw⟩)
            obtain ⟨fl, hfl⟩ : ∃ fl, T1.files = fl := ⟨_, rfl⟩
            have hflN : fl.length ≤ 1000000 := by
              rw [← hfl]
              exact Nat.le_trans (files_length T1) (Nat.le_trans (Fld.FS.there_length T1.fold) (Nat.le_trans (HP'.out.fitT (by omega)).weight (by decide)))
            rw [hfl] at hfe
            have QF := Lib.hid (show ∀ W, FlockX w W 0 [(p, S1), (q, T1)] xb ob → Calls Tryz.prog 28 #[.pointer (some ⟨p, 0, none⟩)] W fun e w' => ∃ ad c, e = .returned (.slice ad fl.length c) ∧ FRow w' (.slice ad fl.length c) fl ∧ Below W.heap.size W w' from fun W h => by
              have q := flock_files h.flock 0 (by simp) (HP'.out.fitS (by omega))
              rw [← hfe]
              exact q)
            have QT := Lib.hid (show ∀ W, FlockX w W 0 [(p, S1), (q, T1)] xb ob → Calls Tryz.prog 28 #[.pointer (some ⟨q, 0, none⟩)] W fun e w' => ∃ ad c, e = .returned (.slice ad fl.length c) ∧ FRow w' (.slice ad fl.length c) fl ∧ Below W.heap.size W w' from fun W h => by
              have q := flock_files h.flock 1 (by simp) (HP'.out.fitT (by omega))
              rw [← hfl]
              exact q)
            have QS := Lib.hid (fun W (ad ad' : Option Addr) (c c' : Nat) h1 h2 => files_same fl (.slice ad fl.length c) (.slice ad' fl.length c') W h1 h2 hflN)
            clear x x1 hr hdn hS1 hT1 hp' hraw ok3 hxs fS fT hfe hfl hflN
            have HSM := Lib.hid (And.intro hs' hsm)
            clear hs' hsm
            obtain ⟨-, t2, -⟩ := HT.out
            go_wp2_with (first
              | (go_at_call 18; go_must (with_reducible refine (HN.out _).mono ?_); rintro e w5 ⟨rfl, hb⟩; have hq := H1.out.next hb; have k0 := HX0.out _ hq.box; have k3 := HX3.out _ hq.box; have H5 := Lib.hid hq; clear hb hq d0 d1 d2 d3 d4 d5)
              | (go_at_call 13; first
                | ((with_reducible refine (QQ.out _ H6.out).mono ?_); rintro e w7 ⟨rfl, hq⟩; have H7 := Lib.hid hq; clear hq)
                | ((with_reducible refine (QP.out _ H5.out).mono ?_); rintro e w6 ⟨rfl, hq⟩; have k3' := HX3.out _ hq.box; have H6 := Lib.hid hq; clear hq))
              | (go_at_call 32; go_must (with_reducible refine (QD.out _ H7.out).mono ?_); rintro e w8 ⟨rfl, rfl⟩)
              | (go_at_call 28; first
                | ((with_reducible refine (QT.out _ H8.out).mono ?_); rintro e w9 ⟨af2, cf2, rfl, hr, hb⟩; have F2 := Lib.hid hr; have F1' := Lib.hid (F1.out.below hb); have H9 := Lib.hid (H8.out.next hb); clear hr hb)
                | ((with_reducible refine (QF.out _ H7.out).mono ?_); rintro e w8 ⟨af1, cf1, rfl, hr, hb⟩; have F1 := Lib.hid hr; have H8 := Lib.hid (H7.out.next hb); clear hr hb))
              | (go_at_call 29; go_must (with_reducible refine (QS.out _ _ _ _ _ F1'.out F2.out).mono ?_); rintro e w10 ⟨rfl, hb⟩; have H10 := Lib.hid (H9.out.next hb); clear hb))
            clear t2
            obtain ⟨hs', hsm⟩ := HSM.out
            exact ⟨⟨k + 1, s', m + 1, S1, T1, by omega, by omega, by go_num, rfl, by omega, HP'.out, H10.out.flock⟩, by simp [intOf]; omega⟩
    · have HG := Lib.hid (show S.fold.good by obtain ⟨v, hv⟩ := HS.out.out 0 (by simp); exact hv.good)
      have HTd := Lib.hid HP.out.mated.tdown
      have QR := Lib.hid (show ∀ W, Flock w W 0 [(p, S), (q, T)] → Calls Tryz.prog 14 #[.pointer (some ⟨p, 0, none⟩), .slice (some ⟨W.heap.size, 0, none⟩) 13 13] (W.alloc (.cells #[.int .u16 60000, .int .u16 60000, .int .u16 60000, .int .u16 60000, .int .u16 60000, .int .u16 60000, .int .u16 60000, .int .u16 60000, .int .u16 60000, .int .u16 60000, .int .u16 60000, .int .u16 60000, .int .u16 60000] 57)) fun e w' => e = .returned (.tuple #[]) ∧ Flock w w' 0 [(p, S.restart sixty), (q, T)] from fun W h =>
        flock_restart1 h 0 (by simp) (Nat.le_refl _) (HP.out.fitS (by omega)) (row16_sixty W) (by decide) (by decide))
      have QD := Lib.hid (show ∀ W, Flock w W 0 [(p, S.restart sixty), (q, T)] → Calls Tryz.prog 32 #[.pointer (some ⟨p, 0, none⟩)] W fun e w' => e = .returned (.bool false) ∧ W = w' from fun W h => h.read 0 (by simp) fun v hv => down_any hv)
      obtain ⟨N, hN⟩ : ∃ N, T.fold.there.length = N := ⟨_, rfl⟩
      have hN5 : N ≤ 100000 := by
        have h1 := Fld.FS.there_length T.fold
        have h2 := (HP.out.fitT (by omega)).weight
        omega
      have QL := Lib.hid (show ∀ W, Flock w W 0 [(p, S.restart sixty), (q, T)] → Calls Tryz.prog 33 #[.pointer (some ⟨q, 0, none⟩)] W fun e w' => (∃ ad c, e = .returned (.slice ad N c)) ∧ Flock w w' 0 [(p, S.restart sixty), (q, T)] from fun W h =>
        h.read 1 (by simp) fun v hv => (disk_list hv (Nat.le_trans (HP.out.fitT (by omega)).weight (by decide))).mono fun e w' ⟨x, he, hx, hb⟩ => ⟨by
          obtain ⟨ad, c, e1⟩ := ownsSlice hx
          rw [show ([(p, S.restart sixty), (q, T)][1]'(by simp)).2.listed.length = N from (listed_length HTd.out).trans hN] at e1
          exact ⟨ad, c, he.trans (congrArg _ e1)⟩, h.next hb⟩)
      have QT := Lib.hid (show ∀ W, Flock w W 0 [(p, S.restart sixty), (q, T)] → Calls Tryz.prog 28 #[.pointer (some ⟨q, 0, none⟩)] W fun e w' => ∃ ad c, e = .returned (.slice ad T.files.length c) ∧ FRow w' (.slice ad T.files.length c) T.files ∧ Below W.heap.size W w' from fun W h => flock_files h 1 (by simp) (HP.out.fitT (by omega)))
      obtain ⟨fl, hfl⟩ : ∃ fl, T.files = fl := ⟨_, rfl⟩
      have hflN : fl.length ≤ N := by rw [← hfl, ← hN]; exact files_length T
      have QF : Hid (N ≤ 5 → ∀ W, Flock w W 0 [(p, S.restart sixty), (q, T)] → Calls Tryz.prog 28 #[.pointer (some ⟨p, 0, none⟩)] W fun e w' => ∃ ad c, e = .returned (.slice ad fl.length c) ∧ FRow w' (.slice ad fl.length c) fl ∧ Below W.heap.size W w') := Lib.hid fun h5 W h => by
        have e := mated_restart HP.out.mated HG.out HP.out.left.light (by omega) (by omega)
        have q := flock_files h 0 (by simp) ((sized_restart HP.out.left sixty).fit (by omega) (by omega) (by decide))
        rw [← hfl, ← e]
        exact q
      rw [hfl] at QT
      have QS := Lib.hid (fun W (ad ad' : Option Addr) (c c' : Nat) h1 h2 => files_same fl (.slice ad fl.length c) (.slice ad' fl.length c') W h1 h2 (by omega))
      clear HG HTd HC hN hfl HP hA1 hA2 hsm
      have g1 : ¬ (k : Int) < (l.length : Int) ∨ ¬ (k : Int) < 30 := by omega
      by_cases hN6 : N ≤ 5
      · have e5 : decide ((5 : Int) < (N : Int)) = false := decide_eq_false (by omega)
        have e5' : decide (5 < N) = false := decide_eq_false (by omega)
        have QF' := Lib.hid (QF.out hN6)
        clear QF hN6
        by_cases h1 : k < l.length
        all_goals
          first
            | (have e1 : decide ((k : Int) < (l.length : Int)) = true := decide_eq_true (by omega)
               have e1' : decide (k < l.length) = true := decide_eq_true h1
               have e2 : decide ((k : Int) < 30) = false := decide_eq_false (by omega)
               have e2' : decide (k < 30) = false := decide_eq_false (by omega))
            | (have e1 : decide ((k : Int) < (l.length : Int)) = false := decide_eq_false (by omega)
               have e1' : decide (k < l.length) = false := decide_eq_false h1)
          clear hlk h1 g1
          go_wp2_with (first
            | (go_at_call 14; go_must (with_reducible refine (QR.out _ HS.out).mono ?_); rintro e w1 ⟨rfl, hq⟩; have R1 := Lib.hid hq; clear hq)
            | (go_at_call 32; go_must (with_reducible refine (QD.out _ R1.out).mono ?_); rintro e w2 ⟨rfl, rfl⟩)
            | (go_at_call 33; go_must (with_reducible refine (QL.out _ R1.out).mono ?_); rintro e w3 ⟨⟨al, cl, rfl⟩, hq⟩; have R2 := Lib.hid hq; clear hq)
            | (go_at_call 28; first
              | ((with_reducible refine (QT.out _ R3.out).mono ?_); rintro e w5 ⟨af2, cf2, rfl, hr, hb⟩; have F2 := Lib.hid hr; have F1' := Lib.hid (F1.out.below hb); have R4 := Lib.hid (R3.out.next hb); clear hr hb)
              | ((with_reducible refine (QF'.out _ R2.out).mono ?_); rintro e w4 ⟨af1, cf1, rfl, hr, hb⟩; have F1 := Lib.hid hr; have R3 := Lib.hid (R2.out.next hb); clear hr hb))
            | (go_at_call 29; go_must (with_reducible refine (QS.out _ _ _ _ _ F1'.out F2.out).mono ?_); rintro e w6 ⟨rfl, hb⟩; have R5 := Lib.hid (R4.out.next hb); clear hb))
          go_ret
          exact ⟨rfl, R5.out.below⟩
      · have e5 : decide ((5 : Int) < (N : Int)) = true := decide_eq_true (by omega)
        have e5' : decide (5 < N) = true := decide_eq_true (by omega)
        clear QF QT QS hflN
        by_cases h1 : k < l.length
        all_goals
          first
            | (have e1 : decide ((k : Int) < (l.length : Int)) = true := decide_eq_true (by omega)
               have e1' : decide (k < l.length) = true := decide_eq_true h1
               have e2 : decide ((k : Int) < 30) = false := decide_eq_false (by omega)
               have e2' : decide (k < 30) = false := decide_eq_false (by omega))
            | (have e1 : decide ((k : Int) < (l.length : Int)) = false := decide_eq_false (by omega)
               have e1' : decide (k < l.length) = false := decide_eq_false h1)
          clear hlk h1 g1
          go_wp2_with (first
            | (go_at_call 14; go_must (with_reducible refine (QR.out _ HS.out).mono ?_); rintro e w1 ⟨rfl, hq⟩; have R1 := Lib.hid hq; clear hq)
            | (go_at_call 32; go_must (with_reducible refine (QD.out _ R1.out).mono ?_); rintro e w2 ⟨rfl, rfl⟩)
            | (go_at_call 33; go_must (with_reducible refine (QL.out _ R1.out).mono ?_); rintro e w3 ⟨⟨al, cl, rfl⟩, hq⟩; have R2 := Lib.hid hq; clear hq))
          go_ret
          exact ⟨rfl, R2.out.below⟩
end Go.Proofs.YtmmoilmfpiclgaaGreat

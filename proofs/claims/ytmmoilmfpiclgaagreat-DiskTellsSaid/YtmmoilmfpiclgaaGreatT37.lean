/-
  The document's disk: all its files. The document's disk: how much is used, and Append. Both disks are found alike.
-/
import Derived.Test.YtmmoilmfpiclgaaGreatT34
import Derived.Test.YtmmoilmfpiclgaaGreatT32
import Derived.Test.YtmmoilmfpiclgaaGreatT35
import Derived.Test.YtmmoilmfpiclgaaGreatT30
import Derived.Test.YtmmoilmfpiclgaaGreatT36
set_option linter.unusedVariables false
set_option linter.unusedSimpArgs false
namespace Go.Proofs.YtmmoilmfpiclgaaGreat
open Go.RowKit Go.Shelf
open Fld (FS Names FAct actsOn foundN foundB findT withT withoutT GoodN Rising mayB nam nameMax RefS textsOf)

attribute [local instance] Fld.alone

/-- One file more behind a row of files. -/
theorem wpList_append_file {w : World} {ops : Array Oper} {rest : List Oper} {o : Oper} {a : Act} {Q : Exit → Act → World → Prop} (hgd : o.guard = none) (s x : Operand)
    (hop : o.op = Op.call { callee := Callee.builtin Builtin.append, args := #[s, x], argTypes := #[22, 22] }) (ht : o.type = 22) (base : Nat) (v : Value) (n : Nat) (fs : List Value) (ad : Addr) (c : Nat) (x1 x2 : ByteArray)
    (hs : a.eval s = v) (hx : a.eval x = .slice (some ad) 1 c) (hc : w.cell? ad = some (.string x1) ∧ w.cell? (ad.add 1) = some (.string x2)) (hv : w.ownsRow base 26 2 v n fs) (hlen : n ≤ 1000000) (hbw : base ≤ w.heap.size)
    (h : ∀ v' w', w'.ownsRow base 26 2 v' (n + 1) (fs ++ [.string x1, .string x2]) → w.grownBy w' v.ownBlock → (v'.ownBlock = v.ownBlock ∨ v'.ownBlock = some w.heap.size) → wpList Tryz.prog ops Q rest (a.put o.dst v') w') : wpList Tryz.prog ops Q (o :: rest) a w := by
  obtain ⟨i0, hi, hz0, hz1, hz2⟩ := info_parts iFile
  obtain ⟨v', w1, h1, h2, h3, _, h5⟩ := run_append_own_at (P := Tryz.prog) w base 22 22 26 i0 _ 2 32 Tryz.underlying22 hi hz0 hz1 hz2 rfl (by decide) v n fs hv ad 1 c [.string x1, .string x2] rfl
    (by
      intro j u hj
      match j, hj with
      | 0, hj => simp at hj; subst hj; exact hc.1
      | 1, hj => simp at hj; subst hj; exact hc.2) (by simp [Value.oneCell']) (by unfold maxLen; omega) (by omega) hbw
  refine wpList_plain hgd fun _ hK => ?_
  unfold Oper.wp execOp
  simp only [hop, ht, resolve, invoke, builtin, Sem.run_bind, Sem.run_pure, Result.andThen_ok, List.map_toArray, List.map_cons, List.map_nil, hs, hx, h1]
  exact hK _ _ (h v' w1 h2 h3 h5)

theorem files_of_row {S : DS} {T : Names} {k : Nat} (h : k < T.length) : (filesT S (T.take (k + 1))).length = (filesT S (T.take k)).length + 1 := by
  unfold filesT
  rw [List.length_map, List.length_map, List.length_take, List.length_take]
  omega
theorem filesT_length {S : DS} {T : Names} {k : Nat} (h : k ≤ T.length) : (filesT S (T.take k)).length = k := by
  unfold filesT
  rw [List.length_map, List.length_take]
  omega

set_option maxHeartbeats 8000000 in
set_option maxRecDepth 100000 in
theorem refFiles_any {w : World} {r : Nat} {S : DS} {M : Nat → Nat → Prop} (hd : RefD w r S M) (hn5 : S.fold.n ≤ 100000) (hl5 : S.fold.there.length ≤ 100000) :
    Calls Tryz.prog 70 #[.pointer (some ⟨r, 0, none⟩)] w fun e w' => ∃ v, e = .returned v ∧ w'.ownsRow w.heap.size 26 2 v S.files.length (filesC S.files) ∧ Below w.heap.size w w' := by
  obtain ⟨q, fv, P, h⟩ := hd.it
  obtain ⟨c0, -, -, -, -, c5, -⟩ := h.cell
  have QN := Lib.hid (Fld.refS_names h.dir)
  have hlt := h.lt
  have HC := Lib.hid (fun W (hW : Below w.heap.size w W) => (hW.cell (p := ⟨r, 5, none⟩) hlt).trans c5)
  have HD := Lib.hid hd
  have HI := Lib.hid h
  obtain ⟨dn, hdn⟩ : ∃ dn, S.down = dn := ⟨_, rfl⟩
  rw [hdn] at HC c5
  unfold DS.files
  rw [hdn]
  obtain ⟨n, hnn⟩ : ∃ n, S.fold.there.length = n := ⟨_, rfl⟩
  have HNN := Lib.hid hnn
  rw [hnn] at QN hl5
  clear h hd hdn hnn
  cases dn with
  | true =>
    simp only [if_true]
    go_enter Tryz.func70, Tryz.ntmps70
    go_wp2_with (go_at_call 129; go_must (with_reducible refine QN.out.mono ?_); rintro e w1 ⟨v, rfl, ho, hb⟩; have HO := Lib.hid ho; have B1 := Lib.hid hb; obtain ⟨ad, c, rfl⟩ := row_form ho; have c51 := HC.out _ hb; clear ho hb)
    refine wp_loop_rounds 1 ?_
    rw [rounds_succ]
    by_cases hn0 : 0 < n
    · have e1 : decide ((0 : Int) < (n : Int)) = true := decide_eq_true (by omega)
      have e2 : decide (0 < n) = true := decide_eq_true hn0
      go_wp2_with fail
      go_ret
      exact ⟨_, rfl, World.ownsRow_nil _ _ _ _, B1.out⟩
    · obtain rfl : n = 0 := by omega
      go_wp2_with fail
      go_ret
      exact ⟨_, rfl, World.ownsRow_nil _ _ _ _, B1.out⟩
  | false =>
    simp only [Bool.false_eq_true, if_false]
    go_enter Tryz.func70, Tryz.ntmps70
    go_wp2_with (go_at_call 129; go_must (with_reducible refine QN.out.mono ?_); rintro e w1 ⟨v, rfl, ho, hb⟩; have HO := Lib.hid ho; have B1 := Lib.hid hb; obtain ⟨ad, c, rfl⟩ := row_form ho; have c51 := HC.out _ hb; clear ho hb)
    have HROW : Hid (∀ W, Below w1.heap.size w1 W → ∀ k, k < n → ∃ b o, ad = some ⟨b, o, none⟩ ∧ W.cell? ⟨b, o + k, none⟩ = some (.string (Fld.strO (nam S.fold.there k).1))) := Lib.hid fun W hW k hk => by
      have ho2 : w1.ownsRow w.heap.size 9 1 (.slice ad n c) (textsOf S.fold.there).length ((textsOf S.fold.there).map Value.string) := by
        rw [Fld.textsOf_length, HNN.out]
        exact HO.out
      obtain ⟨b, o, h1, -, -, h4⟩ := row_text ho2 rfl k (by rw [HNN.out]; exact hk)
      exact ⟨b, o, h1, (hW.cell (p := ⟨b, o + k, none⟩) (block_lt_of_cell h4)).trans h4⟩
    have HN5 := Lib.hid hn5
    have HL5 := Lib.hid hl5
    go_loopw [3, 5] (fun s3 s5 wr => ∃ k : Nat, k ≤ n ∧ s5 = .int .i64 k ∧ ∃ v3, v3 = s3 ∧ Hid (wr.ownsRow w.heap.size 26 2 v3 k (filesC (filesT S (S.fold.there.take k))) ∧ Below w1.heap.size w1 wr ∧ (∀ g, v3.ownBlock = some g → w1.heap.size ≤ g))) (fun _ s5 _ => n - (intOf s5).toNat)
    case atStart => exact ⟨0, Nat.zero_le _, rfl, _, rfl, Lib.hid ⟨World.ownsRow_nil _ _ _ _, Below.refl _ _, fun g hg => by cases hg⟩⟩
    case round =>
      obtain ⟨k, hk, rfl, v3, rfl, HR⟩ := hrel
      have cr := HC.out wr (Below.next B1.out HR.out.2.1)
      by_cases hlt : k < n
      · have e1 : decide ((k : Int) < (n : Int)) = true := decide_eq_true (by omega)
        have e1' : decide (k < n) = true := decide_eq_true hlt
        obtain ⟨b, o, rfl, -⟩ := HROW.out wr HR.out.2.1 k hlt
        have hkt : k < S.fold.there.length := by rw [HNN.out]; exact hlt
        have hmem : ((nam S.fold.there k).1, (nam S.fold.there k).2) ∈ S.fold.there := Fld.nam_mem hkt
        obtain ⟨fm1, fm2⟩ := found_mem HD.out.good.there.rising hmem
        obtain ⟨x, hx⟩ : ∃ x, (nam S.fold.there k).2 = x := ⟨_, rfl⟩
        obtain ⟨nm, hnm⟩ : ∃ nm, Fld.strO (nam S.fold.there k).1 = nm := ⟨_, rfl⟩
        have hnl : nm.data.toList = (nam S.fold.there k).1 := by rw [← hnm]
        rw [← hnl] at fm1 fm2
        rw [hx] at fm2
        have hx1 : 1 ≤ x ∧ x ≤ S.fold.n := by rw [← fm2]; exact found_in HD.out.good fm1
        obtain ⟨Rb, hRb⟩ : ∃ Rb, strO (S.file x).R = Rb := ⟨_, rfl⟩
        have HB0 : Hid (∀ W, Below wr.heap.size wr W → Below w.heap.size w W) := Lib.hid fun W hW => Below.next (Below.next B1.out HR.out.2.1) hW
        have HY : Hid (∀ W, Below wr.heap.size wr W → W.cell? ⟨b, o + k, none⟩ = some (.string nm) ∧ True) := Lib.hid fun W hW => by
          obtain ⟨b', o', e, h⟩ := HROW.out W (Below.next HR.out.2.1 hW) k hlt
          cases e
          rw [← hnm]
          exact ⟨h, trivial⟩
        have HF : Hid (∀ W, Below wr.heap.size wr W → Calls Tryz.prog 121 #[.pointer (some ⟨r, 0, none⟩), .string nm] W fun e w' => e = .returned (.pointer (some ⟨P x, 0, none⟩)) ∧ Below W.heap.size W w') := Lib.hid fun W hW => by
          have := refFile_any (HI.out.below HD.out.parts (HB0.out W hW)) (HD.out.below (HB0.out W hW)) nm HN5.out
          rw [if_pos fm1, fm2] at this
          exact this
        have HBY : Hid (∀ W, Below wr.heap.size wr W → Calls Tryz.prog 127 #[.pointer (some ⟨P x, 0, none⟩)] W fun e w' => e = .returned (.string Rb) ∧ Below W.heap.size W w') := Lib.hid fun W hW => by
          rw [← hRb]
          exact ref_bytes ((HI.out.below HD.out.parts (HB0.out W hW)).files x hx1.1 hx1.2)
        have hMN : Mono (fun v W => ∃ bb, v = .slice (some ⟨bb, 0, none⟩) 1 1 ∧ W.cell? ⟨bb, 0, none⟩ = some (.string nm) ∧ W.cell? ⟨bb, 1, none⟩ = some (.string Rb)) := fun v W W' hb ⟨bb, h1, h2, h3⟩ => ⟨bb, h1, (hb.cell (p := ⟨bb, 0, none⟩) (block_lt_of_cell h2)).trans h2, (hb.cell (p := ⟨bb, 1, none⟩) (block_lt_of_cell h3)).trans h3⟩
        go_upto_region 6 with fail
        refine Said.region_tail (by kernel_rfl) 14 (by kernel_rfl) (by kernel_rfl) (by kernel_rfl) [.is v3, .is (.slice (some ⟨b, o, none⟩) n c), .is (.int .i64 (k : Int)), .is (.pointer (some ⟨b, o + k, none⟩)), .is (.string nm),
          .is (.pointer (some ⟨r, 0, none⟩)), .is (.slice (some ⟨b, o, none⟩) n c), .is (.int .i64 (k : Int)), .is (.pointer (some ⟨b, o + k, none⟩)), .is (.string nm), .is (.pointer (some ⟨P x, 0, none⟩)), .is (.string Rb), .is (.agg #[.string nm, .string Rb]),
          .has (fun v W => ∃ bb, v = .slice (some ⟨bb, 0, none⟩) 1 1 ∧ W.cell? ⟨bb, 0, none⟩ = some (.string nm) ∧ W.cell? ⟨bb, 1, none⟩ = some (.string Rb))] ?_
        simp only [List.toList_toArray, List.take_succ_cons, List.take_zero, List.drop_succ_cons, List.drop_zero]
        iterate 10 (
          refine sq_pure (by rfl) (fun W hb _ => ?_) ?_
          · obtain ⟨y1, y2⟩ := HY.out W hb
            go_simp
          simp only [Act.put, List.setIfInBounds_toArray, List.set_cons_zero, List.set_cons_succ])
        refine sq_call (f := 121) (args := #[.pointer (some ⟨r, 0, none⟩), .string nm]) (by rfl) (fun W => by go_simp) (fun W hb _ => HF.out W hb) ?_
        simp only [Act.put, List.setIfInBounds_toArray, List.set_cons_zero, List.set_cons_succ]
        refine sq_call (f := 127) (args := #[.pointer (some ⟨P x, 0, none⟩)]) (by rfl) (fun W => by go_simp) (fun W hb _ => HBY.out W hb) ?_
        simp only [Act.put, List.setIfInBounds_toArray, List.set_cons_zero, List.set_cons_succ]
        iterate 1 (
          refine sq_pure (by rfl) (fun W hb _ => ?_) ?_
          · obtain ⟨y1, y2⟩ := HY.out W hb
            go_simp
          simp only [Act.put, List.setIfInBounds_toArray, List.set_cons_zero, List.set_cons_succ])
        refine sq_has hMN (fun W hb _ => step_value (v := .slice (some ⟨W.heap.size, 0, none⟩) 1 1) (W' := W.alloc (.cells #[.string nm, .string Rb] 26)) (by rfl) (by go_simp) (below_alloc' (Below.refl _ W)) ⟨W.heap.size, rfl, by simp, by simp⟩) (fun v13 => ?_)
        simp only [Act.put, List.setIfInBounds_toArray, List.set_cons_zero, List.set_cons_succ]
        refine sq_end (fun W hb hK => ?_)
        obtain ⟨bb, rfl, n1, n2⟩ := hK _ (List.mem_cons_self ..)
        have hrowW := owns_same HR.out.1 fun g hg => hb.block g (HR.out.1.lt g hg).2
        have hbW := (HB0.out W hb).size
        have HBW := Lib.hid (Below.next HR.out.2.1 hb)
        have HO3 := Lib.hid HR.out.2.2
        have hzk : w1.heap.size ≤ W.heap.size := HBW.out.size
        have hl9 := HL5.out
        clear hK hb
        refine wpList_append_file rfl (.tmp 24) (.tmp 37) rfl rfl w.heap.size v3 k _ ⟨bb, 0, none⟩ 1 nm Rb rfl rfl ⟨n1, n2⟩ hrowW (by omega) hbW (fun v' w' hown hg hor => ?_)
        have HN9 : Hid (w'.ownsRow w.heap.size 26 2 v' (k + 1) (filesC (filesT S (S.fold.there.take (k + 1)))) ∧ Below w1.heap.size w1 w' ∧ (∀ g, v'.ownBlock = some g → w1.heap.size ≤ g)) := Lib.hid (by
          refine ⟨?_, HBW.out.grown hg hzk (fun r hr => HO3.out r hr), fun g hg' => ?_⟩
          · rw [filesT_take hkt, hx]
            have e9 : fileC ((nam S.fold.there k).1, (S.file x).R) = [.string nm, .string Rb] := by
              unfold fileC
              rw [← hnm, ← hRb]
              rfl
            rw [e9]
            exact hown
          · rcases hor with e | e
            · exact HO3.out g (e.symm.trans hg')
            · have h1 := e.symm.trans hg'
              injection h1 with h1
              omega)
        clear hown hg hor hrowW n1 n2
        go_wp2_with fail
        exact ⟨⟨k + 1, by omega, by go_num, _, rfl, HN9⟩, by simp [intOf]; omega⟩
      · obtain rfl : k = n := by omega
        have e1 : decide ((k : Int) < (k : Int)) = false := by simp
        have HE : Hid (∃ v, v3 = v ∧ wr.ownsRow w.heap.size 26 2 v3 (filesT S S.fold.there).length (filesC (filesT S S.fold.there))) := Lib.hid ⟨_, rfl, by
          have h1 := HR.out.1
          rw [List.take_of_length_le (by rw [HNN.out]; exact Nat.le_refl _)] at h1
          have h2 : (filesT S S.fold.there).length = k := by unfold filesT; rw [List.length_map, HNN.out]
          rw [h2]
          exact h1⟩
        have HBF := Lib.hid (Below.next B1.out HR.out.2.1)
        clear HR cr
        go_wp2_with fail
        go_ret
        obtain ⟨v, rfl, h⟩ := HE.out
        exact ⟨_, rfl, h, HBF.out⟩
end Go.Proofs.YtmmoilmfpiclgaaGreat
namespace Go.Proofs.YtmmoilmfpiclgaaGreat
open Go.RowKit Go.Shelf
open Fld (FS Names FAct actsOn foundN foundB findT withT withoutT GoodN Rising mayB nam nameMax RefS textsOf)

def sumL (l : FL) : Nat := (l.map fun x => x.2.length).sum
theorem sumL_take {l : FL} {k : Nat} (h : k < l.length) : sumL (l.take (k + 1)) = sumL (l.take k) + (flAt l k).2.length := by
  unfold sumL
  rw [List.take_succ_eq_append_getElem h, List.map_append, List.sum_append]
  simp [flAt, List.getD, h]
theorem sumL_le {l : FL} : ∀ k, sumL (l.take k) ≤ sumL l := fun k => by
  unfold sumL
  have h := List.take_append_drop k l
  have e : (l.map fun x : List UInt8 × List UInt8 => x.2.length).sum = ((l.take k).map fun x => x.2.length).sum + ((l.drop k).map fun x => x.2.length).sum := by
    rw [← List.sum_append, ← List.map_append, h]
  omega
theorem sumL_files (S : DS) : sumL S.files = S.usedD := by
  unfold DS.files DS.usedD sumL
  split
  · rfl
  · unfold DS.used sumN
    rw [List.map_map]
    rfl
theorem files_length (S : DS) : S.files.length ≤ S.fold.there.length := by
  unfold DS.files
  split
  · exact Nat.zero_le _
  · rw [List.length_map]; exact Nat.le_refl _

set_option maxHeartbeats 4000000 in
set_option maxRecDepth 100000 in
theorem refUsed_any {w : World} {r : Nat} {S : DS} {M : Nat → Nat → Prop} (hd : RefD w r S M) (hn5 : S.fold.n ≤ 100000) (hl5 : S.fold.there.length ≤ 100000) (hu : S.usedD ≤ 100000000000000) :
    Calls Tryz.prog 73 #[.pointer (some ⟨r, 0, none⟩)] w fun e w' => e = .returned (.int .i64 ((S.usedD : Nat) : Int)) ∧ Below w.heap.size w w' := by
  have QF := Lib.hid (refFiles_any hd hn5 hl5)
  have hll := files_length S
  have hsu := sumL_files S
  obtain ⟨l, hl⟩ : ∃ l, S.files = l := ⟨_, rfl⟩
  obtain ⟨tot, htot⟩ : ∃ tot, S.usedD = tot := ⟨_, rfl⟩
  rw [htot] at hsu hu ⊢
  rw [hl] at QF hll hsu
  have HSU := Lib.hid hsu
  have hl6 : l.length ≤ 100000 := Nat.le_trans hll hl5
  clear hd htot hl hsu hll hn5 hl5
  go_enter Tryz.func73, Tryz.ntmps73
  go_wp2_with (go_at_call 70; go_must (with_reducible refine QF.out.mono ?_); rintro e w1 ⟨v, rfl, ho, hb⟩; have HFR := Lib.hid (frow_of ho); have B1 := Lib.hid hb; obtain ⟨ad, c, rfl, -⟩ := frow_of ho; clear ho hb)
  go_loopw [3, 5] (fun s3 s5 wr => ∃ k : Nat, k ≤ l.length ∧ s5 = .int .i64 k ∧ s3 = .int .i64 ((sumL (l.take k) : Nat) : Int) ∧ Hid (Below w1.heap.size w1 wr)) (fun _ s5 _ => l.length - (intOf s5).toNat)
  case atStart => exact ⟨0, Nat.zero_le _, rfl, rfl, Lib.hid (Below.refl _ _)⟩
  case round =>
    obtain ⟨k, hk, rfl, rfl, HR⟩ := hrel
    by_cases hlt : k < l.length
    · have e1 : decide ((k : Int) < (l.length : Int)) = true := decide_eq_true (by omega)
      have e1' : decide (k < l.length) = true := decide_eq_true hlt
      have hfw := HFR.out.below HR.out
      obtain ⟨ad', c', e, hx⟩ := hfw
      injection e with e2 e3 e4
      subst e2 e4
      obtain ⟨b, o, rfl, -, hc⟩ := hx k hlt
      have hst := sumL_take hlt
      have hsl := sumL_le (l := l) (k + 1)
      obtain ⟨A, hA⟩ : ∃ A, sumL (l.take k) = A := ⟨_, rfl⟩
      obtain ⟨x, hx2⟩ : ∃ x, Fld.strO (flAt l k).2 = x := ⟨_, rfl⟩
      have hxs : x.size = (flAt l k).2.length := by rw [← hx2]; exact Fld.strO_size _
      rw [hx2] at hc
      rw [hA] at hst
      rw [hA]
      have hbd : A + x.size ≤ 100000000000000 := by rw [hxs, ← hst]; exact Nat.le_trans hsl (by rw [HSU.out]; exact hu)
      have hw : IntKind.i64.wrap ((A : Int) + (x.size : Int)) = (A : Int) + (x.size : Int) := IntWalk.i64_in _ (by omega)
      have HST : Hid (sumL (l.take (k + 1)) = A + x.size) := Lib.hid (by rw [hst, hxs])
      clear hst hsl hxs hA hx2 hx
      go_wp2_with fail
      exact ⟨⟨k + 1, by omega, by go_num, by rw [HST.out]; simp, HR⟩, by simp [intOf]; omega⟩
    · obtain rfl : k = l.length := by omega
      have e1 : decide ((l.length : Int) < (l.length : Int)) = false := by simp
      have hs : sumL (l.take l.length) = tot := by rw [List.take_length]; exact HSU.out
      rw [hs]
      have HBF := Lib.hid (Below.next B1.out HR.out)
      go_wp2_with fail
      go_ret
      exact ⟨rfl, HBF.out⟩

/-- Texts, one behind the other. -/
def catB (l : List ByteArray) : ByteArray := l.foldl (fun a b => a ++ b) ByteArray.empty
theorem catB_take {l : List ByteArray} {k : Nat} (h : k < l.length) : catB (l.take (k + 1)) = catB (l.take k) ++ l.getD k ⟨#[]⟩ := by
  unfold catB
  rw [List.take_succ_eq_append_getElem h, List.foldl_append]
  simp [List.getD, h]
theorem catB_size_le {l : List ByteArray} (k : Nat) : (catB (l.take k)).size ≤ (catB l).size := by
  unfold catB
  have h := List.take_append_drop k l
  have e : ∀ (m : List ByteArray) (x : ByteArray), x.size ≤ (m.foldl (fun a b => a ++ b) x).size := by
    intro m
    induction m with
    | nil => intro x; exact Nat.le_refl _
    | cons y m ih =>
      intro x
      refine Nat.le_trans ?_ (ih (x ++ y))
      rw [ByteArray.size_append]
      omega
  have h1 := e (l.drop k) ((l.take k).foldl (fun a b => a ++ b) ByteArray.empty)
  rw [← List.foldl_append, h] at h1
  exact h1

set_option maxHeartbeats 8000000 in
set_option maxRecDepth 100000 in
theorem refAppend_any {w : World} {r : Nat} {S : DS} {M : Nat → Nat → Prop} {lv : Value} {l : List ByteArray} (hd : RefD w r S M) (s : ByteArray) (hf : S.Fit2) (hl : ∀ W, (∀ g, g < w.heap.size → ¬ All M g → W.heap[g]? = w.heap[g]?) → Strs W lv l) (hll : l.length ≤ 1000) (hx : (catB l).size ≤ 10000) :
    Calls Tryz.prog 69 #[.pointer (some ⟨r, 0, none⟩), .string s, lv] w fun e w' => e = .returned (.int .i64 (((S.append s (catB l).data.toList).2 : Nat) : Int)) ∧ WentD w r M (S.append s (catB l).data.toList).1 w' := by
  have QS := Lib.hid (refStep_any hd (Nat.le_trans hf.steps (by decide)))
  have hn5 : S.stepped.fold.n ≤ 100000 := hf.n
  have hl5 : S.stepped.fold.there.length ≤ 100000 := by
    have h1 := Fld.FS.there_length S.fold
    have h2 := hf.weight
    exact Nat.le_trans h1 (Nat.le_trans h2 (by decide))
  have hu5 : S.stepped.used ≤ 100000000000000 := hf.used
  have hroom : S.stepped.room ≤ 1000000000000 := hd.room
  have hheft : ∀ m, (S.stepped.file m).heft ≤ 90000 := hf.heft
  have hacts : ∀ m, (S.stepped.file m).A.length ≤ 900 := hf.acts
  have ea : S.append s (catB l).data.toList = S.doing fun T => T.change0 s (appG (S.stepped.room - S.stepped.used) (catB l).data.toList) := rfl
  rw [ea]
  unfold DS.doing DS.change0
  obtain ⟨T, hT⟩ : ∃ T, S.stepped = T := ⟨_, rfl⟩
  rw [hT] at QS hn5 hl5 hu5 hroom hheft hacts ⊢
  have HL := Lib.hid hl
  clear hT hf hd hl ea
  obtain ⟨dn, hdn⟩ : ∃ dn, T.down = dn := ⟨_, rfl⟩
  have HDN := Lib.hid hdn
  rw [hdn] at QS ⊢
  obtain ⟨adl, cl, hlv⟩ : ∃ ad c, lv = .slice ad l.length c := by
    obtain ⟨ad, c, h, -⟩ := HL.out w fun _ _ _ => rfl
    exact ⟨ad, c, h⟩
  subst hlv
  cases dn with
  | true =>
    rw [if_pos rfl]
    go_enter Tryz.func69, Tryz.ntmps69
    go_wp2_with (go_at_call 120; go_must (with_reducible refine QS.out.mono ?_); rintro e w1 ⟨rfl, hq⟩; have H1 := Lib.hid hq; clear hq)
    go_ret
    exact ⟨rfl, H1.out⟩
  | false =>
    rw [if_neg Bool.false_ne_true]
    obtain ⟨fb, hfb⟩ : ∃ fb, foundB T.fold.there s.data.toList = fb := ⟨_, rfl⟩
    obtain ⟨fn, hfn⟩ : ∃ fn, foundN T.fold.there s.data.toList = fn := ⟨_, rfl⟩
    have hfi := fun (hg : T.fold.good) x => found_in hg (k := s.data.toList) x
    have QF := Lib.hid (fun (W : World) (M1 : Nat → Nat → Prop) (q : Nat) (fv : Value) (P : Nat → Nat) (h1 : RefDI W r T M1 q fv P) (k1 : RefD W r T M1) => refFile_any h1 k1 s hn5)
    rw [hfb, hfn] at hfi
    simp only [hfb, hfn] at QF
    simp only [hfb, hfn]
    have HFI := Lib.hid hfi
    clear hfb hfn hfi
    cases fb with
    | false =>
      simp only [Bool.false_eq_true, if_false] at QF ⊢
      go_enter Tryz.func69, Tryz.ntmps69
      go_wp2_with (first
        | (go_at_call 120; go_must (with_reducible refine QS.out.mono ?_); rintro e w1 ⟨rfl, M1, k1, k2, k3⟩; obtain ⟨q, fv, P, h1⟩ := k1.it; have K1 := Lib.hid k1; have K2 := Lib.hid k2; have K3 := Lib.hid k3; have H1 := Lib.hid h1; clear k1 k2 k3 h1)
        | (go_at_call 121; go_must (with_reducible refine (QF.out _ _ _ _ _ H1.out K1.out).mono ?_); rintro e w2 ⟨rfl, hq⟩; have B2 := Lib.hid hq; clear hq))
      go_ret
      exact ⟨rfl, M1, K1.out.below B2.out, K2.out, K3.out.trans (Kept.below (M := fun _ => False) B2.out) fun g hg => hg.elim⟩
    | true =>
      simp only [if_true, fptr] at QF ⊢
      go_enter Tryz.func69, Tryz.ntmps69
      go_wp2_with (first
        | (go_at_call 120; go_must (with_reducible refine QS.out.mono ?_); rintro e w1 ⟨rfl, M1, k1, k2, k3⟩; obtain ⟨q, fv, P, h1⟩ := k1.it; have K1 := Lib.hid k1; have K2 := Lib.hid k2; have K3 := Lib.hid k3; have H1 := Lib.hid h1; clear k1 k2 k3 h1)
        | (go_at_call 121; go_must (with_reducible refine (QF.out _ _ _ _ _ H1.out K1.out).mono ?_); rintro e w2 ⟨rfl, hq⟩; have B2 := Lib.hid hq; have H2 := Lib.hid (H1.out.below K1.out.parts hq); clear hq))
      have HS2 : Hid (∀ W, Below w2.heap.size w2 W → Strs W (.slice adl l.length cl) l) := Lib.hid fun W hW => HL.out W fun g hg hn => by
        have e1 : w1.heap[g]? = w.heap[g]? := K3.out.block g hg hn
        have l1 : g < w1.heap.size := Nat.lt_of_lt_of_le hg K3.out.size
        rw [hW.block g (Nat.lt_of_lt_of_le l1 B2.out.size), B2.out.block g l1, e1]
      go_loopw [8, 9] (fun s8 s9 wr => ∃ k : Nat, k ≤ l.length ∧ s9 = .int .i64 k ∧ s8 = .string (catB (l.take k)) ∧ Hid (Below w2.heap.size w2 wr)) (fun _ s9 _ => l.length - (intOf s9).toNat)
      case atStart => exact ⟨0, Nat.zero_le _, rfl, rfl, Lib.hid (Below.refl _ _)⟩
      case round =>
        obtain ⟨k, hk, rfl, rfl, HR⟩ := hrel
        by_cases hlt : k < l.length
        · have e1 : decide ((k : Int) < (l.length : Int)) = true := decide_eq_true (by omega)
          have e1' : decide (k < l.length) = true := decide_eq_true hlt
          obtain ⟨ad', c', e, hc⟩ := HS2.out wr HR.out
          injection e with e2 e3 e4
          subst e2 e4
          obtain ⟨b, o, rfl, hcb⟩ := hc k hlt
          have hst := catB_take hlt
          have hsl := catB_size_le (l := l) (k + 1)
          obtain ⟨A, hA⟩ : ∃ A, catB (l.take k) = A := ⟨_, rfl⟩
          obtain ⟨x, hx2⟩ : ∃ x, l.getD k ⟨#[]⟩ = x := ⟨_, rfl⟩
          rw [hx2] at hcb hst
          rw [hA] at hst
          rw [hA]
          have hbd : ¬ 9223372036854775807 < A.size + x.size := by
            rw [hst, ByteArray.size_append] at hsl
            omega
          have HST := Lib.hid hst
          clear hst hsl hA hx2 hc
          go_wp2_with fail
          exact ⟨⟨k + 1, by omega, by go_num, by rw [HST.out], HR⟩, by simp [intOf]; omega⟩
        · obtain rfl : k = l.length := by omega
          have e1 : decide ((l.length : Int) < (l.length : Int)) = false := by simp
          have hs : catB (l.take l.length) = catB l := by rw [List.take_length]
          rw [hs]
          obtain ⟨A, hA⟩ : ∃ A, catB l = A := ⟨_, rfl⟩
          have HA := Lib.hid hA
          rw [hA] at hx ⊢
          obtain ⟨rm, hrm⟩ : ∃ rm, T.room = rm := ⟨_, rfl⟩
          obtain ⟨us, hus⟩ : ∃ us, T.used = us := ⟨_, rfl⟩
          have HD2 := Lib.hid (K1.out.below B2.out)
          have HC : Hid (∀ W, Below wr.heap.size wr W → W.cell? ⟨r, 2, none⟩ = some (.int .i64 (rm : Int)) ∧ True) := Lib.hid fun W hW => by
            have h1 := H2.out.cell.2.2.1
            rw [hrm] at h1
            exact ⟨((Below.next HR.out hW).cell (p := ⟨r, 2, none⟩) (block_lt_of_cell h1)).trans h1, trivial⟩
          have HU : Hid (∀ W, Below wr.heap.size wr W → Calls Tryz.prog 73 #[.pointer (some ⟨r, 0, none⟩)] W fun e w' => e = .returned (.int .i64 ((us : Nat) : Int)) ∧ Below W.heap.size W w') := Lib.hid fun W hW => by
            have hue : T.usedD = us := by unfold DS.usedD; rw [HDN.out, ← hus]; rfl
            have := refUsed_any (HD2.out.below (Below.next HR.out hW)) hn5 hl5 (by rw [hue, ← hus]; exact hu5)
            rw [hue] at this
            exact this
          rw [hrm] at hroom
          rw [hus] at hu5
          have hsb : IntKind.i64.wrap ((rm : Int) - (us : Int)) = (rm : Int) - (us : Int) := IntWalk.i64_in _ (by omega)
          have hmx : (if (0 : Int) < (rm : Int) - (us : Int) then (rm : Int) - (us : Int) else 0) = ((rm - us : Nat) : Int) := by split <;> omega
          have hmx2 : max (0 : Int) ((rm : Int) - (us : Int)) = ((rm - us : Nat) : Int) := by omega
          go_upto_region 11 with fail
          refine Said.region (by kernel_rfl) (by kernel_rfl) (by kernel_rfl) [.is (.pointer (some ⟨r, 0, none⟩)), .is (.pointer (some ⟨r, 0, none⟩)), .is (.pointer (some ⟨r, 2, none⟩)), .is (.int .i64 (rm : Int)), .is (.pointer (some ⟨r, 0, none⟩)), .is (.int .i64 ((us : Nat) : Int)), .is (.int .i64 ((rm : Int) - (us : Int))), .is (.int .i64 ((rm - us : Nat) : Int)), .is (.int .i64 ((rm - us : Nat) : Int))] ?_
          simp only [List.toList_toArray]
          iterate 5 (
          refine sq_pure (by rfl) (fun W hb _ => ?_) ?_
          · obtain ⟨y1, y2⟩ := HC.out W hb
            go_simp
          simp only [Act.put, List.setIfInBounds_toArray, List.set_cons_zero, List.set_cons_succ])
          refine sq_call (f := 73) (args := #[.pointer (some ⟨r, 0, none⟩)]) (by rfl) (fun W => by go_simp) (fun W hb _ => HU.out W hb) ?_
          simp only [Act.put, List.setIfInBounds_toArray, List.set_cons_zero, List.set_cons_succ]
          iterate 3 (
          refine sq_pure (by rfl) (fun W hb _ => ?_) ?_
          · obtain ⟨y1, y2⟩ := HC.out W hb
            go_simp
          simp only [Act.put, List.setIfInBounds_toArray, List.set_cons_zero, List.set_cons_succ])
          refine sq_end (fun W hb _ => ?_)
          have HW := Lib.hid (Below.next HR.out hb)
          obtain ⟨g, hg⟩ : ∃ g, rm - us = g := ⟨_, rfl⟩
          have HG := Lib.hid hg
          rw [hg]
          obtain ⟨m, hm⟩ : ∃ m, min g A.size = m := ⟨_, rfl⟩
          have hmA : (m : Int) ≤ (A.size : Int) := by omega
          have hmn : min (g : Int) (A.size : Int) = (m : Int) := by omega
          have hx1s : (A.extract 0 m).size ≤ 10000 := by rw [ByteArray.size_extract]; omega
          have HJ : Hid (joined [A.extract 0 m] = A.data.toList.take g) := Lib.hid (by
            have e1 : joined [A.extract 0 m] = (A.extract 0 m).data.toList := by unfold joined; simp
            have e2 : (A.extract 0 m).data.toList = A.data.toList.take m := by simp
            have e3 : A.data.toList.length = A.size := by simp
            rw [e1, e2, ← hm]
            by_cases hga : g ≤ A.size
            · rw [Nat.min_eq_left hga]
            · rw [Nat.min_eq_right (by omega), List.take_of_length_le (by omega), List.take_of_length_le (by omega)])
          have QA : Hid (∀ W', Below w2.heap.size w2 W' → ∀ (x : ByteArray) b, W'.heap[b]? = some (.cells #[.string x] 9 (0, 0)) → x.size ≤ 10000 → Calls Tryz.prog 131 #[.pointer (some ⟨P fn, 0, none⟩), .slice (some ⟨b, 0, none⟩) 1 1] W' fun e w' => e = .returned (.tuple #[]) ∧ ∃ J' : Nat → Prop, RefAt w' (P fn) (T.file fn).D (appT (T.file fn).A (joined [x])) J' ∧ (∀ g, J' g → M1 (fn + 3) g ∨ W'.heap.size ≤ g) ∧ Kept (M1 (fn + 3)) W' w') := Lib.hid fun W' hW' x b hb hxs => by
            have hfr := HFI.out K1.out.good trivial
            have h9 : bulk (T.file fn).D (T.file fn).A ≤ 90000 := hheft fn
            have hj1 : (joined [x]).length = x.size := by unfold joined; simp
            have hbk : bulk (T.file fn).D (T.file fn).A + (joined [x]).length ≤ 100000 := by rw [hj1]; omega
            exact ref_append ((H2.out.below HD2.out.parts hW').files fn hfr.1 hfr.2) (l := [x]) (v := .slice (some ⟨b, 0, none⟩) 1 1) ⟨_, _, rfl, fun i hi => ⟨b, 0, rfl, by
              obtain rfl : i = 0 := by simp at hi; omega
              rw [cell_of_row W' b 0 _ _ _ hb]; rfl⟩⟩ (by simp) hbk (Nat.le_trans (hacts fn) (by decide))
          have HG2 : Hid (T.room - T.used = g) := Lib.hid (by rw [hrm, hus]; exact hg)
          clear hm hrm hus hsb hmx hmx2
          have e9 : A.data.toList.length = A.size := by simp
          by_cases hle : A.size ≤ g
          · have c1 : decide ((g : Int) < (A.size : Int)) = false := decide_eq_false (by omega)
            have c2 : decide (g < A.size) = false := decide_eq_false (by omega)
            have HAG := Lib.hid (show (appG g A.data.toList (T.file fn)).2 = 0 by unfold appG; dsimp only; rw [if_pos (by rw [e9]; exact hle)])
            go_wp2_with (go_at_call 131; go_must (with_reducible refine (QA.out _ (below_alloc' HW.out) _ _ (heap_alloc_new W _) hx1s).mono ?_); rintro e w5 ⟨rfl, hq⟩; have H5 := Lib.hid hq; clear hq)
            go_ret
            refine ⟨by rw [HG2.out, HA.out, HAG.out]; rfl, WentD.after K2.out K3.out (WentD.after (M1 := M1) (fun g hg => .inl hg) (Kept.below B2.out) (WentD.after (M1 := M1) (fun g hg => .inl hg) (Kept.below (below_alloc' (o := .cells #[.string (A.extract 0 m)] 9) HW.out)) ?_))⟩
            have := RefD.part (H2.out.below HD2.out.parts (below_alloc' HW.out)) (HD2.out.below (below_alloc' HW.out)) ⟨(T.file fn).D, appT (T.file fn).A (joined [A.extract 0 m])⟩ H5.out
            rw [HJ.out] at this
            rw [HG2.out, HA.out]
            exact this
          · have c1 : decide ((g : Int) < (A.size : Int)) = true := decide_eq_true (by omega)
            have c2 : decide (g < A.size) = true := decide_eq_true (by omega)
            have HAG := Lib.hid (show (appG g A.data.toList (T.file fn)).2 = 10 by unfold appG; dsimp only; rw [if_neg (by rw [e9]; exact hle)])
            go_wp2_with (go_at_call 131; go_must (with_reducible refine (QA.out _ (below_alloc' HW.out) _ _ (heap_alloc_new W _) hx1s).mono ?_); rintro e w5 ⟨rfl, hq⟩; have H5 := Lib.hid hq; clear hq)
            go_ret
            refine ⟨by rw [HG2.out, HA.out, HAG.out]; rfl, WentD.after K2.out K3.out (WentD.after (M1 := M1) (fun g hg => .inl hg) (Kept.below B2.out) (WentD.after (M1 := M1) (fun g hg => .inl hg) (Kept.below (below_alloc' (o := .cells #[.string (A.extract 0 m)] 9) HW.out)) ?_))⟩
            have := RefD.part (H2.out.below HD2.out.parts (below_alloc' HW.out)) (HD2.out.below (below_alloc' HW.out)) ⟨(T.file fn).D, appT (T.file fn).A (joined [A.extract 0 m])⟩ H5.out
            rw [HJ.out] at this
            rw [HG2.out, HA.out]
            exact this
end Go.Proofs.YtmmoilmfpiclgaaGreat
namespace Go.Proofs.YtmmoilmfpiclgaaGreat
open Go.RowKit Go.Shelf
open Fld (FS Names FAct actsOn foundN foundB findT withT withoutT GoodN Rising mayB nam nameMax RefS textsOf)

def namesB (l : FL) : List ByteArray := l.map fun x => Fld.strO x.1
theorem namesB_at {l : FL} {k : Nat} (h : k < l.length) : (namesB l).getD k ⟨#[]⟩ = Fld.strO (flAt l k).1 := by
  unfold namesB flAt
  simp [List.getD, h]
theorem namesB_take {l : FL} {k : Nat} (h : k < l.length) : strs (namesB (l.take (k + 1))) = strs (namesB (l.take k)) ++ [.string (Fld.strO (flAt l k).1)] := by
  unfold namesB strs
  rw [List.take_succ_eq_append_getElem h, List.map_append, List.map_append]
  simp [flAt, List.getD, h]
theorem namesB_files (S : DS) : namesB S.files = S.listed := by
  unfold DS.files DS.listed namesB
  split
  · rfl
  · rw [List.map_map]
    rfl

set_option maxHeartbeats 4000000 in
set_option maxRecDepth 100000 in
theorem same7_any (l : List ByteArray) (v1 v2 : Value) (w : World) (h1 : Strs w v1 l) (h2 : Strs w v2 l) (hlen : l.length ≤ 1000000) :
    Calls Tryz.prog 71 #[v1, v2] w fun e w' => e = .returned (.bool true) ∧ Below w.heap.size w w' := by
  have HB1 := Lib.hid (fun W (B : Below w.heap.size w W) => h1.below B)
  have HB2 := Lib.hid (fun W (B : Below w.heap.size w W) => h2.below B)
  obtain ⟨ad1, c1, rfl, -⟩ := h1
  obtain ⟨ad2, c2, rfl, -⟩ := h2
  go_enter Tryz.func71, Tryz.ntmps71
  go_wp2
  go_loopw [5] (fun s5 wr => ∃ k : Nat, k ≤ l.length ∧ s5 = .int .i64 k ∧ Below w.heap.size w wr) (fun s5 _ => l.length - (intOf s5).toNat)
  case atStart => exact ⟨0, Nat.zero_le _, rfl, Below.refl _ _⟩
  case round =>
    obtain ⟨k, hk, rfl, hb0⟩ := hrel
    by_cases hlt : k < l.length
    · have e1 : decide ((k : Int) < (l.length : Int)) = true := decide_eq_true (by omega)
      have e1' : decide (k < l.length) = true := decide_eq_true hlt
      obtain ⟨_, _, e, hc1⟩ := HB1.out wr hb0
      injection e with e2 e3 e4
      subst e2 e4
      obtain ⟨_, _, e, hc2⟩ := HB2.out wr hb0
      injection e with e2 e3 e4
      subst e2 e4
      obtain ⟨b1, o1, rfl, x1⟩ := hc1 k hlt
      obtain ⟨b2, o2, rfl, x2⟩ := hc2 k hlt
      obtain ⟨x, hx⟩ : ∃ x, l.getD k ⟨#[]⟩ = x := ⟨_, rfl⟩
      rw [hx] at x1 x2
      have HY : Hid (∀ W, Below wr.heap.size wr W → W.cell? ⟨b1, o1 + k, none⟩ = some (.string x) ∧ W.cell? ⟨b2, o2 + k, none⟩ = some (.string x)) := Lib.hid fun W hW => ⟨(hW.cell (p := ⟨b1, o1 + k, none⟩) (block_lt_of_cell x1)).trans x1, (hW.cell (p := ⟨b2, o2 + k, none⟩) (block_lt_of_cell x2)).trans x2⟩
      clear hc1 hc2 hx x1 x2
      go_upto_region 6 with fail
      refine Said.region (by kernel_rfl) (by kernel_rfl) (by kernel_rfl) [.is (.slice (some ⟨b1, o1, none⟩) l.length c1), .is (.int .i64 (k : Int)), .is (.pointer (some ⟨b1, o1 + k, none⟩)), .is (.string x), .is (.slice (some ⟨b2, o2, none⟩) l.length c2), .is (.int .i64 (k : Int)), .is (.pointer (some ⟨b2, o2 + k, none⟩)), .is (.string x), .is (.bool false)] ?_
      simp only [List.toList_toArray]
      iterate 9 (
        refine sq_pure (by rfl) (fun W hb _ => ?_) ?_
        · obtain ⟨y1, y2⟩ := HY.out W hb
          go_simp
        simp only [Act.put, List.setIfInBounds_toArray, List.set_cons_zero, List.set_cons_succ])
      refine sq_end (fun W hb _ => ?_)
      have hbn := Below.next hb0 hb
      go_wp2
      exact ⟨⟨k + 1, by omega, by go_num, hbn⟩, by simp [intOf]; omega⟩
    · obtain rfl : k = l.length := by omega
      have e1 : decide ((l.length : Int) < (l.length : Int)) = false := by simp
      go_wp2
      go_ret
      exact ⟨rfl, hb0⟩

theorem iStr8 : (Tryz.prog.info? 9).map (fun i => (i.zero, i.size, i.bytes)) = some (some (.string ⟨#[]⟩), 1, 16) := by kernel_rfl
/-- One text more behind a row of texts. -/
theorem wpList_append_text {w : World} {ops : Array Oper} {rest : List Oper} {o : Oper} {a : Act} {Q : Exit → Act → World → Prop} (hgd : o.guard = none) (s x : Operand)
    (hop : o.op = Op.call { callee := Callee.builtin Builtin.append, args := #[s, x], argTypes := #[62, 62] }) (ht : o.type = 62) (base : Nat) (v : Value) (n : Nat) (fs : List Value) (ad : Addr) (c : Nat) (x1 : ByteArray)
    (hs : a.eval s = v) (hx : a.eval x = .slice (some ad) 1 c) (hc : w.cell? ad = some (.string x1)) (hv : w.ownsRow base 9 1 v n fs) (hlen : n ≤ 1000000) (hbw : base ≤ w.heap.size)
    (h : ∀ v' w', w'.ownsRow base 9 1 v' (n + 1) (fs ++ [.string x1]) → w.grownBy w' v.ownBlock → (v'.ownBlock = v.ownBlock ∨ v'.ownBlock = some w.heap.size) → wpList Tryz.prog ops Q rest (a.put o.dst v') w') : wpList Tryz.prog ops Q (o :: rest) a w := by
  obtain ⟨i0, hi, hz0, hz1, hz2⟩ := info_parts iStr8
  obtain ⟨v', w1, h1, h2, h3, _, h5⟩ := run_append_own_at (P := Tryz.prog) w base 62 62 9 i0 _ 1 16 Tryz.underlying62 hi hz0 hz1 hz2 rfl (by decide) v n fs hv ad 1 c [.string x1] rfl
    (by
      intro j u hj
      match j, hj with
      | 0, hj => simp at hj; subst hj; exact hc) (by simp [Value.oneCell']) (by unfold maxLen; omega) (by omega) hbw
  refine wpList_plain hgd fun _ hK => ?_
  unfold Oper.wp execOp
  simp only [hop, ht, resolve, invoke, builtin, Sem.run_bind, Sem.run_pure, Result.andThen_ok, List.map_toArray, List.map_cons, List.map_nil, hs, hx, h1]
  exact hK _ _ (h v' w1 h2 h3 h5)

set_option maxHeartbeats 4000000 in
set_option maxRecDepth 100000 in
theorem names8_any (l : FL) (v : Value) (w : World) (h : FRow w v l) (hlen : l.length ≤ 100000) :
    Calls Tryz.prog 72 #[v] w fun e w' => ∃ v', e = .returned v' ∧ Strs w' v' (namesB l) ∧ Below w.heap.size w w' := by
  have HB := Lib.hid (fun W (B : Below w.heap.size w W) => h.below B)
  obtain ⟨ad, c, rfl, -⟩ := h
  go_enter Tryz.func72, Tryz.ntmps72
  go_wp2_with fail
  go_loopw [3, 4] (fun s3 s4 wr => ∃ k : Nat, k ≤ l.length ∧ s4 = .int .i64 k ∧ ∃ v3, v3 = s3 ∧ Hid (wr.ownsRow w.heap.size 9 1 v3 k (strs (namesB (l.take k))) ∧ Below w.heap.size w wr)) (fun _ s4 _ => l.length - (intOf s4).toNat)
  case atStart => exact ⟨0, Nat.zero_le _, rfl, _, rfl, Lib.hid ⟨World.ownsRow_nil _ _ _ _, Below.refl _ _⟩⟩
  case round =>
    obtain ⟨k, hk, rfl, v3, rfl, HR⟩ := hrel
    by_cases hlt : k < l.length
    · have e1 : decide ((k : Int) < (l.length : Int)) = true := decide_eq_true (by omega)
      have e1' : decide (k < l.length) = true := decide_eq_true hlt
      obtain ⟨_, _, e, hc⟩ := HB.out wr HR.out.2
      injection e with e2 e3 e4
      subst e2 e4
      obtain ⟨b, o, rfl, x1, -⟩ := hc k hlt
      have hnt := Lib.hid (namesB_take hlt)
      obtain ⟨x, hx⟩ : ∃ x, Fld.strO (flAt l k).1 = x := ⟨_, rfl⟩
      rw [hx] at x1
      have HX := Lib.hid hx
      obtain ⟨a3, c3, hv3⟩ := ownsSlice HR.out.1
      clear hc hx
      go_wp2_with (at_builtin; refine wpList_append_text rfl (.tmp 11) (.tmp 17) rfl rfl w.heap.size v3 k _ ⟨wr.heap.size, 0, none⟩ 1 x rfl rfl (by simp) (owns_same HR.out.1 fun g hg => heap_alloc_old wr _ (HR.out.1.lt g hg).2) (by omega) (by have := HR.out.2.size; simp; omega) (fun v' w' hown hg hor => ?_); have HN9 : Hid (w'.ownsRow w.heap.size 9 1 v' (k + 1) (strs (namesB (l.take (k + 1)))) ∧ Below w.heap.size w w') := Lib.hid (⟨(by rw [hnt.out, HX.out]; exact hown), (below_alloc' HR.out.2).grown hg (below_alloc' HR.out.2).size (fun r hr => (HR.out.1.lt r hr).1)⟩); clear hown hg hor)
      exact ⟨⟨k + 1, by omega, by go_num, _, rfl, HN9⟩, by simp [intOf]; omega⟩
    · obtain rfl : k = l.length := by omega
      have e1 : decide ((l.length : Int) < (l.length : Int)) = false := by simp
      have HE : Hid (Strs wr v3 (namesB l) ∧ Below w.heap.size w wr) := Lib.hid (by
        have h1 := HR.out.1
        rw [List.take_length] at h1
        have h2 : (namesB l).length = l.length := by unfold namesB; rw [List.length_map]
        exact ⟨strs_of_owns (by rw [h2]; exact h1), HR.out.2⟩)
      clear HR
      go_wp2_with fail
      go_ret
      exact ⟨_, rfl, HE.out⟩

set_option maxHeartbeats 8000000 in
set_option maxRecDepth 100000 in
theorem alike8_any {w0 w : World} {p r : Nat} {S : DS} {ex : List (Nat × Obj)} (h : Both w0 w p r S S ex) (hf : S.Fit2) :
    Calls Tryz.prog 16 #[.pointer (some ⟨p, 0, none⟩), .pointer (some ⟨r, 0, none⟩)] w fun e w' => e = .returned (.bool true) ∧ Below w.heap.size w w' := by
  obtain ⟨v, M, h⟩ := h
  have hd := h.d
  have he := h.e
  obtain ⟨q, fv, P, hi⟩ := he.it
  have hn5 := hf.n
  have hl5 : S.fold.there.length ≤ 100000 := Nat.le_trans (Fld.FS.there_length S.fold) (Nat.le_trans hf.weight (by decide))
  have hll : S.files.length ≤ 100000 := Nat.le_trans (files_length S) hl5
  have hu : S.usedD ≤ 100000000000000 := by
    unfold DS.usedD
    split
    · exact Nat.zero_le _
    · exact hf.used
  have HPF0 := Lib.hid (fun (W : World) (hW : Below w.heap.size w W) => disk_files (hd.below hW) hf.weight)
  have HPL0 := Lib.hid (fun (W : World) (hW : Below w.heap.size w W) => disk_list (hd.below hW) (Nat.le_trans hf.weight (by decide)))
  have HRF0 := Lib.hid (fun (W : World) (hW : Below w.heap.size w W) => refFiles_any (he.below hW) hn5 hl5)
  have HPU0 := Lib.hid (fun (W : World) (hW : Below w.heap.size w W) => (used_any (hd.below hW)).mono fun e w' ⟨h1, h2⟩ => (⟨h1, h2 ▸ Below.refl _ W⟩ : _ ∧ Below W.heap.size W w'))
  have HRU0 := Lib.hid (fun (W : World) (hW : Below w.heap.size w W) => refUsed_any (he.below hW) hn5 hl5 hu)
  have HPQ0 := Lib.hid (fun (W : World) (hW : Below w.heap.size w W) => (quota_any (hd.below hW)).mono fun e w' ⟨h1, h2⟩ => (⟨h1, h2 ▸ Below.refl _ W⟩ : _ ∧ Below W.heap.size W w'))
  have HPS0 := Lib.hid (fun (W : World) (hW : Below w.heap.size w W) => (steps_any (hd.below hW)).mono fun e w' ⟨h1, h2⟩ => (⟨h1, h2 ▸ Below.refl _ W⟩ : _ ∧ Below W.heap.size W w'))
  have HPD0 := Lib.hid (fun (W : World) (hW : Below w.heap.size w W) => (down_any (hd.below hW)).mono fun e w' ⟨h1, h2⟩ => (⟨h1, h2 ▸ Below.refl _ W⟩ : _ ∧ Below W.heap.size W w'))
  obtain ⟨-, -, c2, c3, -, c5, -⟩ := hi.cell
  have hlt := hi.lt
  have hnl := namesB_files S
  obtain ⟨l, hl⟩ : ∃ l, S.files = l := ⟨_, rfl⟩
  obtain ⟨us, hus⟩ : ∃ us, S.usedD = us := ⟨_, rfl⟩
  obtain ⟨rm, hrm⟩ : ∃ rm, S.room = rm := ⟨_, rfl⟩
  obtain ⟨st, hst⟩ : ∃ st, S.steps = st := ⟨_, rfl⟩
  obtain ⟨dn, hdn⟩ : ∃ dn, S.down = dn := ⟨_, rfl⟩
  rw [hl] at HPF0 HRF0 hll hnl
  rw [hus] at HPU0 HRU0
  rw [hrm] at HPQ0 c2
  rw [hst] at HPS0 c3
  rw [hdn] at HPD0 c5
  rw [← hnl] at HPL0
  have HPF : Hid (∀ W, Below w.heap.size w W → Calls Tryz.prog 28 #[.pointer (some ⟨p, 0, none⟩)] W fun e w' => ∃ v, e = .returned v ∧ FRow w' v l ∧ Below W.heap.size W w') := Lib.hid fun W hW => (HPF0.out W hW).mono fun e w' ⟨v, h1, h2, h3⟩ => ⟨v, h1, frow_of h2, h3⟩
  have HRF : Hid (∀ W, Below w.heap.size w W → Calls Tryz.prog 70 #[.pointer (some ⟨r, 0, none⟩)] W fun e w' => ∃ v, e = .returned v ∧ FRow w' v l ∧ Below W.heap.size W w') := Lib.hid fun W hW => (HRF0.out W hW).mono fun e w' ⟨v, h1, h2, h3⟩ => ⟨v, h1, frow_of h2, h3⟩
  have HPL : Hid (∀ W, Below w.heap.size w W → Calls Tryz.prog 33 #[.pointer (some ⟨p, 0, none⟩)] W fun e w' => ∃ v, e = .returned v ∧ Strs w' v (namesB l) ∧ Below W.heap.size W w') := Lib.hid fun W hW => (HPL0.out W hW).mono fun e w' ⟨v, h1, h2, h3⟩ => ⟨v, h1, strs_of_owns h2, h3⟩
  have hnll : (namesB l).length ≤ 1000000 := by unfold namesB; rw [List.length_map]; omega
  have HPU := Lib.hid HPU0.out
  have HRU := Lib.hid HRU0.out
  have HPQ := Lib.hid HPQ0.out
  have HPS := Lib.hid HPS0.out
  have HPD := Lib.hid HPD0.out
  have HSM := Lib.hid (fun (W : World) v1 v2 (h1 : FRow W v1 l) (h2 : FRow W v2 l) => files_same l v1 v2 W h1 h2 (by omega))
  have HS7 := Lib.hid (fun (W : World) v1 v2 (h1 : Strs W v1 (namesB l)) (h2 : Strs W v2 (namesB l)) => same7_any (namesB l) v1 v2 W h1 h2 hnll)
  have HNM := Lib.hid (fun (W : World) v1 (h1 : FRow W v1 l) => names8_any l v1 W h1 hll)
  have HC : Hid (∀ W, Below w.heap.size w W → W.cell? ⟨r, 2, none⟩ = some (.int .i64 (rm : Int)) ∧ W.cell? ⟨r, 3, none⟩ = some (.int .i64 (st : Int)) ∧ W.cell? ⟨r, 5, none⟩ = some (.bool dn)) := Lib.hid fun W hW => ⟨(hW.cell (p := ⟨r, 2, none⟩) hlt).trans c2, (hW.cell (p := ⟨r, 3, none⟩) hlt).trans c3, (hW.cell (p := ⟨r, 5, none⟩) hlt).trans c5⟩
  have hMF : Mono (fun v W => FRow W v l) := fun v W W' hb h => h.below hb
  have hMS : Mono (fun v W => Strs W v (namesB l)) := fun v W W' hb h => h.below hb
  clear HPF0 HRF0 HPL0 HPU0 HRU0 HPQ0 HPS0 HPD0 h hd he hi c2 c3 c5 hl hus hrm hst hdn hnl hll hu hn5 hl5 hlt hnll
  go_enter Tryz.func16, Tryz.ntmps16
  go_upto_region 1 with fail
  refine Said.region (by kernel_rfl) (by kernel_rfl) (by kernel_rfl) [.is (.pointer (some ⟨p, 0, none⟩)), .has (fun v W => FRow W v l), .is (.pointer (some ⟨r, 0, none⟩)), .has (fun v W => FRow W v l), .is (.bool true), .is (.bool true), .is (.pointer (some ⟨p, 0, none⟩)), .has (fun v W => Strs W v (namesB l)), .is (.pointer (some ⟨r, 0, none⟩)), .has (fun v W => FRow W v l), .has (fun v W => Strs W v (namesB l)), .is (.bool true), .is (.bool true), .is (.bool true), .is (.pointer (some ⟨p, 0, none⟩)), .is (.int .i64 ((us : Nat) : Int)), .is (.pointer (some ⟨r, 0, none⟩)), .is (.int .i64 ((us : Nat) : Int)), .is (.bool true), .is (.bool true), .is (.bool true), .is (.pointer (some ⟨p, 0, none⟩)), .is (.int .i64 ((rm : Nat) : Int)), .is (.pointer (some ⟨r, 0, none⟩)), .is (.pointer (some ⟨r, 0, none⟩)), .is (.pointer (some ⟨r, 2, none⟩)), .is (.int .i64 ((rm : Nat) : Int)), .is (.bool true), .is (.bool true), .is (.bool true), .is (.pointer (some ⟨p, 0, none⟩)), .is (.int .i64 ((st : Nat) : Int)), .is (.pointer (some ⟨r, 0, none⟩)), .is (.pointer (some ⟨r, 0, none⟩)), .is (.pointer (some ⟨r, 3, none⟩)), .is (.int .i64 ((st : Nat) : Int)), .is (.bool true), .is (.bool true), .is (.bool true), .is (.pointer (some ⟨p, 0, none⟩)), .is (.bool dn), .is (.pointer (some ⟨r, 0, none⟩)), .is (.pointer (some ⟨r, 0, none⟩)), .is (.pointer (some ⟨r, 5, none⟩)), .is (.bool dn), .is (.bool true), .is (.bool true), .is (.bool true)] ?_
  simp only [List.toList_toArray]
  iterate 1 (
    refine sq_pure (by rfl) (fun W hb _ => ?_) ?_
    · obtain ⟨y1, y2, y3⟩ := HC.out W hb
      go_simp
    simp only [Act.put, List.setIfInBounds_toArray, List.set_cons_zero, List.set_cons_succ])
  refine sq_calls (f := 28) (args := #[.pointer (some ⟨p, 0, none⟩)]) hMF (by rfl) (fun W => by go_simp) (fun W hb _ => HPF.out W hb) (fun v1 => ?_)
  simp only [Act.put, List.setIfInBounds_toArray, List.set_cons_zero, List.set_cons_succ]
  iterate 1 (
    refine sq_pure (by rfl) (fun W hb _ => ?_) ?_
    · obtain ⟨y1, y2, y3⟩ := HC.out W hb
      go_simp
    simp only [Act.put, List.setIfInBounds_toArray, List.set_cons_zero, List.set_cons_succ])
  refine sq_calls (f := 70) (args := #[.pointer (some ⟨r, 0, none⟩)]) hMF (by rfl) (fun W => by go_simp) (fun W hb _ => HRF.out W hb) (fun v3 => ?_)
  simp only [Act.put, List.setIfInBounds_toArray, List.set_cons_zero, List.set_cons_succ]
  refine sq_call (f := 29) (args := #[v1, v3]) (by rfl) (fun W => by go_simp) (fun W hb hf => HSM.out W v1 v3 (hf.2.1 (by kernel_rfl)) (hf.1 (by kernel_rfl))) ?_
  simp only [Act.put, List.setIfInBounds_toArray, List.set_cons_zero, List.set_cons_succ]
  iterate 2 (
    refine sq_pure (by rfl) (fun W hb _ => ?_) ?_
    · obtain ⟨y1, y2, y3⟩ := HC.out W hb
      go_simp
    simp only [Act.put, List.setIfInBounds_toArray, List.set_cons_zero, List.set_cons_succ])
  refine sq_calls (f := 33) (args := #[.pointer (some ⟨p, 0, none⟩)]) hMS (by rfl) (fun W => by go_simp) (fun W hb _ => HPL.out W hb) (fun v7 => ?_)
  simp only [Act.put, List.setIfInBounds_toArray, List.set_cons_zero, List.set_cons_succ]
  iterate 1 (
    refine sq_pure (by rfl) (fun W hb _ => ?_) ?_
    · obtain ⟨y1, y2, y3⟩ := HC.out W hb
      go_simp
    simp only [Act.put, List.setIfInBounds_toArray, List.set_cons_zero, List.set_cons_succ])
  refine sq_calls (f := 70) (args := #[.pointer (some ⟨r, 0, none⟩)]) hMF (by rfl) (fun W => by go_simp) (fun W hb _ => HRF.out W hb) (fun v9 => ?_)
  simp only [Act.put, List.setIfInBounds_toArray, List.set_cons_zero, List.set_cons_succ]
  refine sq_calls (f := 72) (args := #[v9]) hMS (by rfl) (fun W => by go_simp) (fun W hb hf => HNM.out W v9 (hf.1 (by kernel_rfl))) (fun v10 => ?_)
  simp only [Act.put, List.setIfInBounds_toArray, List.set_cons_zero, List.set_cons_succ]
  refine sq_call (f := 71) (args := #[v7, v10]) (by rfl) (fun W => by go_simp) (fun W hb hf => HS7.out W v7 v10 (hf.2.2.1 (by kernel_rfl)) (hf.1 (by kernel_rfl))) ?_
  simp only [Act.put, List.setIfInBounds_toArray, List.set_cons_zero, List.set_cons_succ]
  iterate 3 (
    refine sq_pure (by rfl) (fun W hb _ => ?_) ?_
    · obtain ⟨y1, y2, y3⟩ := HC.out W hb
      go_simp
    simp only [Act.put, List.setIfInBounds_toArray, List.set_cons_zero, List.set_cons_succ])
  refine sq_call (f := 19) (args := #[.pointer (some ⟨p, 0, none⟩)]) (by rfl) (fun W => by go_simp) (fun W hb _ => HPU.out W hb) ?_
  simp only [Act.put, List.setIfInBounds_toArray, List.set_cons_zero, List.set_cons_succ]
  iterate 1 (
    refine sq_pure (by rfl) (fun W hb _ => ?_) ?_
    · obtain ⟨y1, y2, y3⟩ := HC.out W hb
      go_simp
    simp only [Act.put, List.setIfInBounds_toArray, List.set_cons_zero, List.set_cons_succ])
  refine sq_call (f := 73) (args := #[.pointer (some ⟨r, 0, none⟩)]) (by rfl) (fun W => by go_simp) (fun W hb _ => HRU.out W hb) ?_
  simp only [Act.put, List.setIfInBounds_toArray, List.set_cons_zero, List.set_cons_succ]
  iterate 4 (
    refine sq_pure (by rfl) (fun W hb _ => ?_) ?_
    · obtain ⟨y1, y2, y3⟩ := HC.out W hb
      go_simp
    simp only [Act.put, List.setIfInBounds_toArray, List.set_cons_zero, List.set_cons_succ])
  refine sq_call (f := 36) (args := #[.pointer (some ⟨p, 0, none⟩)]) (by rfl) (fun W => by go_simp) (fun W hb _ => HPQ.out W hb) ?_
  simp only [Act.put, List.setIfInBounds_toArray, List.set_cons_zero, List.set_cons_succ]
  iterate 8 (
    refine sq_pure (by rfl) (fun W hb _ => ?_) ?_
    · obtain ⟨y1, y2, y3⟩ := HC.out W hb
      go_simp
    simp only [Act.put, List.setIfInBounds_toArray, List.set_cons_zero, List.set_cons_succ])
  refine sq_call (f := 37) (args := #[.pointer (some ⟨p, 0, none⟩)]) (by rfl) (fun W => by go_simp) (fun W hb _ => HPS.out W hb) ?_
  simp only [Act.put, List.setIfInBounds_toArray, List.set_cons_zero, List.set_cons_succ]
  iterate 8 (
    refine sq_pure (by rfl) (fun W hb _ => ?_) ?_
    · obtain ⟨y1, y2, y3⟩ := HC.out W hb
      go_simp
    simp only [Act.put, List.setIfInBounds_toArray, List.set_cons_zero, List.set_cons_succ])
  refine sq_call (f := 32) (args := #[.pointer (some ⟨p, 0, none⟩)]) (by rfl) (fun W => by go_simp) (fun W hb _ => HPD.out W hb) ?_
  simp only [Act.put, List.setIfInBounds_toArray, List.set_cons_zero, List.set_cons_succ]
  iterate 7 (
    refine sq_pure (by rfl) (fun W hb _ => ?_) ?_
    · obtain ⟨y1, y2, y3⟩ := HC.out W hb
      go_simp
    simp only [Act.put, List.setIfInBounds_toArray, List.set_cons_zero, List.set_cons_succ])
  refine sq_end (fun W hb _ => ?_)
  go_wp2_with fail
  go_ret
  exact ⟨rfl, hb⟩
end Go.Proofs.YtmmoilmfpiclgaaGreat

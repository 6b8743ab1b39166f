/-
  DiskTells: the acts together; what comes in, cut; disks of them. DiskTells: the walk.
-/
import Derived.Test.YtmmoilmfpiclgaaGreatT41
import Derived.Test.YtmmoilmfpiclgaaGreatT42
import Derived.Test.YtmmoilmfpiclgaaGreatT37
import Derived.Test.YtmmoilmfpiclgaaGreatT43
import Derived.Deep.CutBlock
import Derived.Deep.DeepCutAuto
import Derived.Deep.CutRange
set_option linter.unusedVariables false
set_option linter.unusedSimpArgs false
namespace Go.Proofs.YtmmoilmfpiclgaaGreat
open Go.RowKit Go.Shelf
open Fld (FS Names FAct actsOn foundN foundB findT withT withoutT GoodN Rising mayB nam nameMax RefS textsOf)

/-- A row of numbers that came in. -/
def RowD (w : World) (v : Value) : Prop := ∃ Ln : List Nat, Row16 w v Ln ∧ (∀ ad ln c, v = .slice ad ln c → ln = Ln.length ∧ ln ≤ c ∧ c ≤ 9223372036854775807) ∧ ∀ ad ln c b o, v = .slice ad ln c → ad = some ⟨b, o, none⟩ → ln ≠ 0 → b < w.heap.size

theorem does8_any {w0 w : World} {p r : Nat} {S : DS} {d : Deed} (h : Both w0 w p r S S []) (hf : S.Light 890 89000) (hd : d.ok) (hr : RowD w0 d.l) :
    Calls Tryz.prog 15 #[.agg d.vals, .pointer (some ⟨p, 0, none⟩), .pointer (some ⟨r, 0, none⟩)] w (DoesP w0 w p r S) := by
  have hlt : d.what % 17 < 17 := Nat.mod_lt _ (by decide)
  by_cases c0 : d.what % 17 = 0 ∨ d.what % 17 = 1
  · exact does_create h hf hd c0
  by_cases c6 : d.what % 17 = 6
  · exact does_truncate h hf hd c6
  by_cases c7 : d.what % 17 = 7 ∨ d.what % 17 = 8
  · exact does_sync h hf hd c7
  by_cases c9 : d.what % 17 = 9 ∨ d.what % 17 = 10
  · exact does_syncDir h hf hd c9
  by_cases c11 : d.what % 17 = 11
  · exact does_rename h hf hd c11
  by_cases c12 : d.what % 17 = 12
  · exact does_remove h hf hd c12
  by_cases c13 : d.what % 17 = 13
  · exact does_readAt h hf hd c13
  by_cases c14 : d.what % 17 = 14
  · exact does_arm h hf hd c14
  by_cases c15 : d.what % 17 = 15
  · obtain ⟨Ln, h1, h2, h3⟩ := hr
    exact does_restart h hf hd (fun W hW => h1.same fun b o n c e e9 => hW.block b (h3 _ n c b o e rfl e9)) h2 h3 c15
  · exact does_append h hf hd (by omega)

/-- A file that came in, with thirty bytes at most. -/
def cut30 (x : List UInt8 × List UInt8) : List UInt8 × List UInt8 := (x.1, ((Fld.strO x.2).extract 0 (min (Fld.strO x.2).size 30)).data.toList)
def ownT (l : FL) (k : Nat) : FL := (l.take k).map cut30
theorem ownT_length {l : FL} {k : Nat} (h : k ≤ l.length) : (ownT l k).length = k := by
  unfold ownT
  rw [List.length_map, List.length_take]
  omega
theorem ownT_take {l : FL} {k : Nat} (h : k < l.length) : filesC (ownT l (k + 1)) = filesC (ownT l k) ++ fileC (cut30 (flAt l k)) := by
  unfold ownT filesC
  rw [List.take_succ_eq_append_getElem h, List.map_append, List.flatMap_append]
  simp [flAt, List.getD, h]
theorem strO_list8 (b : ByteArray) : Fld.strO b.data.toList = b := by
  unfold Fld.strO
  simp
theorem ownT_short {l : FL} (hs : ∀ x ∈ l, x.1.length ≤ nameMax) (k : Nat) : ∀ x ∈ ownT l k, x.1.length ≤ nameMax ∧ x.2.length ≤ 30 := fun x hx => by
  obtain ⟨y, hy, rfl⟩ := List.mem_map.1 hx
  refine ⟨hs y (List.mem_of_mem_take hy), ?_⟩
  have h : (cut30 y).2.length = ((Fld.strO y.2).extract 0 (min (Fld.strO y.2).size 30)).size := by
    unfold cut30
    exact Array.length_toList
  rw [h, ByteArray.size_extract]
  omega

/-- A disk that is laid of few files is light. -/
theorem ofs_light : ∀ (l : FL) (S S' : DS) (k u : Nat), Young S k u → S.fold.good → S.steps = 0 → (∀ m, (S.file m).A = [] ∧ (S.file m).D.length ≤ 30) → (∀ x ∈ l, x.2.length ≤ 30) → S.ofs l = some S' →
    S'.fold.weight ≤ 2 * (k + l.length) ∧ S'.fold.n ≤ k + l.length ∧ S'.steps = 0 ∧ ∀ m, (S'.file m).A = [] ∧ (S'.file m).D.length ≤ 30
  | [], S, S', k, u, hy, _, hs, hf, _, e => by
    unfold DS.ofs at e
    cases e
    exact ⟨by rw [hy.weight]; simp; omega, by rw [hy.n]; simp, hs, hf⟩
  | x :: l, S, S', k, u, hy, hg, hs, hf, hx, e => by
    unfold DS.ofs at e
    by_cases e0 : (S.fold.create (Fld.strO x.1)).2.2 = 0
    · rw [if_pos e0] at e
      have h1 := ofs_light l (S.laid (Fld.strO x.1) x.2) S' (k + 1) (u + x.2.length) (young_laid hy hg x.2 e0) (Fld.good_create hg _) hs (fun m => by
        show (upd S.file _ _ m).A = [] ∧ (upd S.file _ _ m).D.length ≤ 30
        by_cases em : m = (S.fold.create (Fld.strO x.1)).2.1
        · rw [em, upd_same]
          exact ⟨rfl, hx x (List.mem_cons_self ..)⟩
        · rw [upd_other _ _ em]
          exact hf m) (fun y hy => hx y (List.mem_cons_of_mem _ hy)) e
      rw [List.length_cons]
      exact ⟨by have := h1.1; omega, by have := h1.2.1; omega, h1.2.2⟩
    · rw [if_neg e0] at e
      cases e
theorem of_light {q : Nat} {l : FL} {S : DS} (hl : l.length ≤ 8) (hx : ∀ x ∈ l, x.2.length ≤ 30) (e : DS.of q l = some S) : S.Light 40 30 := by
  unfold DS.of at e
  cases h : (DS.new q).ofs l with
  | none => rw [h] at e; cases e
  | some S1 =>
    rw [h] at e
    cases e
    obtain ⟨h1, h2, h3, h4⟩ := ofs_light l (DS.new q) S1 0 0 (young_new q) Fld.good_new rfl (fun m => ⟨rfl, by simp [DS.new, FileS.none]⟩) hx h
    have ht := Fld.FS.there_length S1.fold
    refine ⟨?_, fun m => ?_, fun m => ?_, ?_⟩
    · show S1.fold.there.length + 0 + S1.fold.n ≤ 40
      omega
    · show (S1.file m).A.length ≤ 40
      rw [(h4 m).1]
      simp
    · show bulk (S1.file m).D (S1.file m).A ≤ 30
      rw [(h4 m).1]
      have : bulk (S1.file m).D [] = (S1.file m).D.length := by simp [bulk]
      rw [this]
      exact (h4 m).2
    · show S1.steps ≤ 40
      rw [h3]
      simp

set_option maxHeartbeats 1000000 in
set_option maxRecDepth 100000 in
theorem of_neg {w : World} {lv : Value} {q : Int} (hq : q < 0) : Calls Tryz.prog 7 #[lv, .int .i64 q] w fun e w' => e = .returned (.pointer none) ∧ Below w.heap.size w w' := by
  have QN := Lib.hid (new_none w hq)
  go_enter Tryz.func7, Tryz.ntmps7
  go_wp2_with (go_at_call 9; go_must (with_reducible refine QN.out.mono ?_); rintro e w1 ⟨rfl, rfl⟩)
  go_ret
  exact ⟨rfl, Below.refl _ _⟩
set_option maxHeartbeats 1000000 in
set_option maxRecDepth 100000 in
theorem refOf_neg {w : World} {lv : Value} {q : Int} (hq : q < 0) : Calls Tryz.prog 8 #[lv, .int .i64 q] w fun e w' => e = .returned (.pointer none) ∧ Below w.heap.size w w' := by
  have QN := Lib.hid (refNewD_none w q hq)
  go_enter Tryz.func8, Tryz.ntmps8
  go_wp2_with (go_at_call 10; go_must (with_reducible refine QN.out.mono ?_); rintro e w1 ⟨rfl, hb⟩; have HB := Lib.hid hb; clear hb)
  go_ret
  exact ⟨rfl, HB.out⟩

/-- Both disks, where the acts begin; or none. -/
def Start (w0 w : World) (v9 v10 : Value) : Prop := (v9 = .pointer none ∧ v10 = .pointer none ∧ Below w0.heap.size w0 w) ∨ ∃ p r S, v9 = .pointer (some ⟨p, 0, none⟩) ∧ v10 = .pointer (some ⟨r, 0, none⟩) ∧ Both w0 w p r S S [] ∧ S.Light 40 30
theorem Start.next {w0 w w' : World} {v9 v10 : Value} (h : Start w0 w v9 v10) (hb : Below w.heap.size w w') : Start w0 w' v9 v10 := by
  rcases h with ⟨h1, h2, h3⟩ | ⟨p, r, S, h1, h2, h3, h4⟩
  · exact .inl ⟨h1, h2, Below.next h3 hb⟩
  · exact .inr ⟨p, r, S, h1, h2, h3.next hb, h4⟩
end Go.Proofs.YtmmoilmfpiclgaaGreat
namespace Go.Proofs.YtmmoilmfpiclgaaGreat
open Go.RowKit Go.Shelf
open Fld (FS Names FAct actsOn foundN foundB findT withT withoutT GoodN Rising mayB nam nameMax RefS textsOf)

set_option maxHeartbeats 40000000 in
set_option maxRecDepth 100000 in
theorem diskTells_walk (fl : FL) (vf : Value) (q : Int) (dl : List Deed) (vd : Value) (w : World) (hf : FRow w vf fl) (hfl : fl.length ≤ 9223372036854775807) (hfs : ∀ x ∈ fl, x.1.length ≤ nameMax ∧ x.2.length ≤ nameMax)
    (hq1 : -32768 ≤ q) (hq2 : q ≤ 32767) (hd : Deeds w vd dl) (hdl : dl.length ≤ 9223372036854775807) (hdk : ∀ d ∈ dl, d.ok ∧ RowD w d.l) :
    Calls Tryz.prog 3 #[vf, .int .i16 q, vd] w fun e w' => e = .returned (.bool true) ∧ Below w.heap.size w w' := by
  have HFR := Lib.hid (fun W (hW : Below w.heap.size w W) => hf.below hW)
  obtain ⟨adf, cf, rfl, -⟩ := hf
  obtain ⟨add, cd, rfl, hdc⟩ := hd
  have HDC := Lib.hid hdc
  have HFS := Lib.hid hfs
  have HDK := Lib.hid hdk
  have HQ := Lib.hid (And.intro hq1 hq2)
  have hqw : IntKind.i64.wrap q = q := IntWalk.i64_in _ (by omega)
  clear hdc hfs hdk
  go_enter Tryz.func3, Tryz.ntmps3
  go_upto_block 0 with fail
  go_cut [7] from 13 to 44 (fun s7 wx => ∃ (v7 : Value) (own : FL), v7 = s7 ∧ Hid (own.length ≤ 8 ∧ (∀ x ∈ own, x.1.length ≤ nameMax ∧ x.2.length ≤ 30) ∧ FRow wx v7 own ∧ Below w.heap.size w wx))
  case first =>
   go_wp2_with fail
   go_loopw [7, 8] (fun s7 s8 wr => ∃ k : Nat, k ≤ fl.length ∧ k ≤ 8 ∧ s8 = .int .i64 k ∧ ∃ v7, v7 = s7 ∧ Hid (wr.ownsRow w.heap.size 26 2 v7 k (filesC (ownT fl k)) ∧ Below w.heap.size w wr)) (fun _ s8 _ => 8 - (intOf s8).toNat)
   case atStart => exact ⟨0, Nat.zero_le _, Nat.zero_le _, rfl, _, rfl, Lib.hid ⟨World.ownsRow_nil _ _ _ _, Below.refl _ _⟩⟩
   case round =>
     obtain ⟨k, hk, hk8, rfl, v7, rfl, HR⟩ := hrel
     by_cases hlk : k < fl.length ∧ k < 8
     · obtain ⟨hlt, hlt8⟩ := hlk
       have e1 : decide ((k : Int) < (fl.length : Int)) = true := decide_eq_true (by omega)
       have e1' : decide (k < fl.length) = true := decide_eq_true hlt
       have e2 : decide ((k : Int) < 8) = true := decide_eq_true (by omega)
       have e2' : decide (k < 8) = true := decide_eq_true hlt8
       obtain ⟨_, _, e, hc⟩ := HFR.out wr HR.out.2
       injection e with e3 e4 e5
       subst e3 e5
       obtain ⟨b, o, rfl, x1, x2⟩ := hc k hlt
       have hot := Lib.hid (ownT_take hlt)
       obtain ⟨nm, hnm⟩ : ∃ nm, Fld.strO (flAt fl k).1 = nm := ⟨_, rfl⟩
       obtain ⟨by', hby⟩ : ∃ y, Fld.strO (flAt fl k).2 = y := ⟨_, rfl⟩
       rw [hnm] at x1
       rw [hby] at x2
       have hbs : by'.size ≤ nameMax := by
         rw [← hby, Fld.strO_size]
         exact (HFS.out _ (by have : flAt fl k = fl[k] := by simp [flAt, List.getD, hlt]
                              rw [this]; exact List.getElem_mem hlt)).2
       have hbs2 : by'.size ≤ 140737488355328 := Nat.le_trans hbs (by decide)
       obtain ⟨m, hm⟩ : ∃ m, min by'.size 30 = m := ⟨_, rfl⟩
       have hmi : min (by'.size : Int) 30 = (m : Int) := by omega
       have hmi2 : (if (30 : Int) < (by'.size : Int) then (30 : Int) else (by'.size : Int)) = (m : Int) := by split <;> omega
       have hmi3 : (if (by'.size : Int) < (30 : Int) then (by'.size : Int) else (30 : Int)) = (m : Int) := by split <;> omega
       have hmr : (m : Int) ≤ (by'.size : Int) := by omega
       have HC9 : Hid (fileC (cut30 (flAt fl k)) = [.string nm, .string (by'.extract 0 m)]) := Lib.hid (by
         unfold cut30 fileC
         dsimp only
         rw [strO_list8, hnm, hby, hm])
       have HY : Hid (∀ W, Below wr.heap.size wr W → W.cell? ⟨b, o + k * 2, none⟩ = some (.string nm) ∧ W.cell? ⟨b, o + k * 2 + 1, none⟩ = some (.string by')) := Lib.hid fun W hW => ⟨(hW.cell (p := ⟨b, o + k * 2, none⟩) (block_lt_of_cell x1)).trans x1, (hW.cell (p := ⟨b, o + k * 2 + 1, none⟩) (block_lt_of_cell x2)).trans x2⟩
       have hMN : Mono (fun v W => ∃ bb, v = .slice (some ⟨bb, 0, none⟩) 1 1 ∧ W.cell? ⟨bb, 0, none⟩ = some (.string nm) ∧ W.cell? ⟨bb, 1, none⟩ = some (.string (by'.extract 0 m))) := fun v W W' hb ⟨bb, h1, h2, h3⟩ => ⟨bb, h1, (hb.cell (p := ⟨bb, 0, none⟩) (block_lt_of_cell h2)).trans h2, (hb.cell (p := ⟨bb, 1, none⟩) (block_lt_of_cell h3)).trans h3⟩
       clear hc x1 x2 hnm hby hbs hm
       go_upto_region 5 with fail
       refine Said.region_tail (by kernel_rfl) 21 (by kernel_rfl) (by kernel_rfl) (by kernel_rfl) [.is v7, .is (.slice (some ⟨b, o, none⟩) fl.length cf), .is (.int .i64 (k : Int)), .is (.pointer (some ⟨b, o + k * 2, none⟩)), .is (.pointer (some ⟨b, o + k * 2, none⟩)), .is (.string nm),
         .is (.slice (some ⟨b, o, none⟩) fl.length cf), .is (.int .i64 (k : Int)), .is (.pointer (some ⟨b, o + k * 2, none⟩)), .is (.pointer (some ⟨b, o + k * 2 + 1, none⟩)), .is (.string by'),
         .is (.slice (some ⟨b, o, none⟩) fl.length cf), .is (.int .i64 (k : Int)), .is (.pointer (some ⟨b, o + k * 2, none⟩)), .is (.pointer (some ⟨b, o + k * 2 + 1, none⟩)), .is (.string by'), .is (.int .i64 (by'.size : Int)), .is (.int .i64 (m : Int)), .is (.string (by'.extract 0 m)), .is (.agg #[.string nm, .string (by'.extract 0 m)]),
         .has (fun v W => ∃ bb, v = .slice (some ⟨bb, 0, none⟩) 1 1 ∧ W.cell? ⟨bb, 0, none⟩ = some (.string nm) ∧ W.cell? ⟨bb, 1, none⟩ = some (.string (by'.extract 0 m)))] ?_
       simp only [List.toList_toArray, List.take_succ_cons, List.take_zero, List.drop_succ_cons, List.drop_zero]
       iterate 20 (
         refine sq_pure (by rfl) (fun W hb _ => ?_) ?_
         · obtain ⟨y1, y2⟩ := HY.out W hb
           go_simp
         simp only [Act.put, List.setIfInBounds_toArray, List.set_cons_zero, List.set_cons_succ])
       refine sq_has hMN (fun W hb _ => step_value (v := .slice (some ⟨W.heap.size, 0, none⟩) 1 1) (W' := W.alloc (.cells #[.string nm, .string (by'.extract 0 m)] 26)) (by rfl) (by go_simp) (below_alloc' (Below.refl _ W)) ⟨W.heap.size, rfl, by simp, by simp⟩) (fun v13 => ?_)
       simp only [Act.put, List.setIfInBounds_toArray, List.set_cons_zero, List.set_cons_succ]
       refine sq_end (fun W hb hK => ?_)
       obtain ⟨bb, rfl, n1, n2⟩ := hK _ (List.mem_cons_self ..)
       have hrowW := owns_same HR.out.1 fun g hg => hb.block g (HR.out.1.lt g hg).2
       have HBW := Lib.hid (Below.next HR.out.2 hb)
       have HO3 := Lib.hid (fun r hr => (HR.out.1.lt r hr).1)
       clear hK hb
       refine wpList_append_file rfl (.tmp 23) (.tmp 43) rfl rfl w.heap.size v7 k _ ⟨bb, 0, none⟩ 1 nm (by'.extract 0 m) rfl rfl ⟨n1, n2⟩ hrowW (by omega) HBW.out.size (fun v' w' hown hg hor => ?_)
       have HN9 : Hid (w'.ownsRow w.heap.size 26 2 v' (k + 1) (filesC (ownT fl (k + 1))) ∧ Below w.heap.size w w') := Lib.hid ⟨by rw [hot.out, HC9.out]; exact hown, HBW.out.grown hg HBW.out.size HO3.out⟩
       clear hown hg hor hrowW n1 n2
       go_wp2_with fail
       exact ⟨⟨k + 1, by omega, by omega, by go_num, _, rfl, HN9⟩, by simp [intOf]; omega⟩
     · have e1 : (decide ((k : Int) < (fl.length : Int)) = false ∧ decide (k < fl.length) = false) ∨ (decide ((k : Int) < (fl.length : Int)) = true ∧ decide (k < fl.length) = true ∧ decide ((k : Int) < 8) = false ∧ decide (k < 8) = false) := by
         by_cases h : k < fl.length
         · exact .inr ⟨decide_eq_true (by omega), decide_eq_true h, decide_eq_false (by omega), decide_eq_false (by omega)⟩
         · exact .inl ⟨decide_eq_false (by omega), decide_eq_false h⟩
       have hol := ownT_length (l := fl) (k := k) hk
       have HOS := Lib.hid (ownT_short (fun x hx => (HFS.out x hx).1) k)
       have HEND : Hid (∀ W, Below wr.heap.size wr W → (ownT fl k).length ≤ 8 ∧ (∀ x ∈ ownT fl k, x.1.length ≤ nameMax ∧ x.2.length ≤ 30) ∧ FRow W v7 (ownT fl k) ∧ Below w.heap.size w W) := Lib.hid fun W hW => ⟨by omega, HOS.out, (frow_of (by rw [hol]; exact HR.out.1)).below hW, Below.next HR.out.2 hW⟩
       clear HR hol
       rcases e1 with ⟨e1, e2⟩ | ⟨e1, e2, e3, e4⟩
       · go_wp2_with fail
         go_meet
         exact ⟨_, _, rfl, Lib.hid (HEND.out _ (Below.refl _ _))⟩
       · go_wp2_with fail
         go_meet
         exact ⟨_, _, rfl, Lib.hid (HEND.out _ (Below.refl _ _))⟩
  case rest =>
  obtain ⟨v7, own, hv7, H0⟩ := hcut
  subst hv7
  obtain ⟨w1, h⟩ : ∃ w1, w1 = wc := ⟨_, rfl⟩
  subst h
  clear HFR HFS
  go_upto_region 6 with fail
  go_cut [9, 10] from 45 to 52 (fun s9 s10 wx => ∃ z9 z10 : Value, z9 = s9 ∧ z10 = s10 ∧ Hid (Start w wx z9 z10))
  case first =>
    by_cases hq0 : q < 0
    · have QP := Lib.hid (fun W => of_neg (w := W) (lv := v7) hq0)
      have QR := Lib.hid (fun W => refOf_neg (w := W) (lv := v7) hq0)
      go_wp2_with (first
        | (go_at_call 7; (with_reducible refine (QP.out _).mono ?_); rintro e w2 ⟨rfl, hb⟩; have HB2 := Lib.hid hb; clear hb)
        | (go_at_call 8; (with_reducible refine (QR.out _).mono ?_); rintro e w3 ⟨rfl, hb⟩; have HB3 := Lib.hid hb; clear hb))
      go_meet
      exact ⟨_, _, rfl, rfl, Lib.hid (.inl ⟨rfl, rfl, Below.next (Below.next H0.out.2.2.2 HB2.out) HB3.out⟩)⟩
    · obtain ⟨qn, rfl⟩ : ∃ n : Nat, q = (n : Int) := ⟨q.toNat, by omega⟩
      have hqn : qn ≤ 1000000000000 := by omega
      have hs9 : ∀ x ∈ own, x.1.length ≤ nameMax ∧ x.2.length ≤ 100000 := fun x hx => ⟨(H0.out.2.1 x hx).1, Nat.le_trans (H0.out.2.1 x hx).2 (by decide)⟩
      have hl9 : own.length ≤ 20000 := Nat.le_trans H0.out.1 (by decide)
      cases hof : DS.of qn own with
      | none =>
        have QP : Hid (∀ W, Below w1.heap.size w1 W → Calls Tryz.prog 7 #[v7, .int .i64 (qn : Int)] W fun e w' => e = .returned (.pointer none) ∧ Below W.heap.size W w') := Lib.hid fun W hW => (of_any qn hqn (H0.out.2.2.1.below hW) hl9 hs9).mono fun e w' h => by
          rcases h with ⟨-, h1, h2⟩ | ⟨S, p, v, hS, -⟩
          · exact ⟨h1, h2⟩
          · rw [hof] at hS; cases hS
        have QR : Hid (∀ W, Below w1.heap.size w1 W → Calls Tryz.prog 8 #[v7, .int .i64 (qn : Int)] W fun e w' => e = .returned (.pointer none) ∧ Below W.heap.size W w') := Lib.hid fun W hW => (refOf_any qn hqn (H0.out.2.2.1.below hW) hl9 hs9).mono fun e w' h => by
          rcases h with ⟨-, h1, h2⟩ | ⟨S, r, hS, -⟩
          · exact ⟨h1, h2⟩
          · rw [hof] at hS; cases hS
        clear hof hs9
        go_wp2_with (first
          | (go_at_call 7; (with_reducible refine (QP.out _ (Below.refl _ _)).mono ?_); rintro e w2 ⟨rfl, hb⟩; have HB2 := Lib.hid hb; clear hb)
          | (go_at_call 8; (with_reducible refine (QR.out _ HB2.out).mono ?_); rintro e w3 ⟨rfl, hb⟩; have HB3 := Lib.hid hb; clear hb))
        go_meet
        exact ⟨_, _, rfl, rfl, Lib.hid (.inl ⟨rfl, rfl, Below.next (Below.next H0.out.2.2.2 HB2.out) HB3.out⟩)⟩
      | some S =>
        have HLI := Lib.hid (of_light H0.out.1 (fun x hx => (H0.out.2.1 x hx).2) hof)
        have QP : Hid (∀ W, Below w1.heap.size w1 W → Calls Tryz.prog 7 #[v7, .int .i64 (qn : Int)] W fun e w' => ∃ p, e = .returned (.pointer (some ⟨p, 0, none⟩)) ∧ ∃ v, DiskP w' p S v ∧ (∀ g, All v.M g ∨ All v.I g → W.heap.size ≤ g) ∧ Below W.heap.size W w') := Lib.hid fun W hW => (of_any qn hqn (H0.out.2.2.1.below hW) hl9 hs9).mono fun e w' h => by
          rcases h with ⟨h1, -⟩ | ⟨S', p, v, hS, h1, h2, h3, h4⟩
          · rw [hof] at h1; cases h1
          · rw [hof] at hS
            cases hS
            exact ⟨p, h1, v, h2, h3, h4⟩
        have QR : Hid (∀ W, Below w1.heap.size w1 W → Calls Tryz.prog 8 #[v7, .int .i64 (qn : Int)] W fun e w' => ∃ r, e = .returned (.pointer (some ⟨r, 0, none⟩)) ∧ FreshD W r S w') := Lib.hid fun W hW => (refOf_any qn hqn (H0.out.2.2.1.below hW) hl9 hs9).mono fun e w' h => by
          rcases h with ⟨h1, -⟩ | ⟨S', r, hS, h1, h2⟩
          · rw [hof] at h1; cases h1
          · rw [hof] at hS
            cases hS
            exact ⟨r, h1, h2⟩
        clear hof hs9
        go_wp2_with (first
          | (go_at_call 7; (with_reducible refine (QP.out _ (Below.refl _ _)).mono ?_); rintro e w2 ⟨p, rfl, v, h1, h2, h3⟩; have HD2 := Lib.hid h1; have HF2 := Lib.hid h2; have HB2 := Lib.hid h3; clear h1 h2 h3)
          | (go_at_call 8; (with_reducible refine (QR.out _ HB2.out).mono ?_); rintro e w3 ⟨r, rfl, hb⟩; have HB3 := Lib.hid hb; clear hb))
        go_meet
        obtain ⟨M, k1, k2, k3⟩ := HB3.out
        have hz1 := H0.out.2.2.2.size
        exact ⟨_, _, rfl, rfl, Lib.hid (.inr ⟨p, r, S, rfl, rfl, Both.start HD2.out (fun g hg => Nat.le_trans hz1 (HF2.out g hg)) (Below.next H0.out.2.2.2 HB2.out) k1 k2 k3, HLI.out⟩)⟩
  case rest =>
  obtain ⟨z9, z10, hz9, hz10, HS1⟩ := hcut
  subst hz9 hz10
  obtain ⟨w2, h⟩ : ∃ w2, w2 = wc := ⟨_, rfl⟩
  subst h
  clear H0
  go_upto_region 7 with fail
  go_cut [68] from 53 to 67 (fun s68 wx => s68 = .bool false ∧ Hid (Start w wx z9 z10))
  case first =>
    have QQ : Hid ((∀ W, Calls Tryz.prog 9 #[.int .i64 q] W fun e w' => e = .returned (.pointer none) ∧ Below W.heap.size W w') ∧ (∀ W, Calls Tryz.prog 10 #[.int .i64 q] W fun e w' => e = .returned (.pointer none) ∧ Below W.heap.size W w') ∨
        (∀ W, Calls Tryz.prog 9 #[.int .i64 q] W fun e w' => ∃ p, e = .returned (.pointer (some ⟨p, 0, none⟩)) ∧ Below W.heap.size W w') ∧ (∀ W, Calls Tryz.prog 10 #[.int .i64 q] W fun e w' => ∃ r, e = .returned (.pointer (some ⟨r, 0, none⟩)) ∧ Below W.heap.size W w')) := Lib.hid (by
      by_cases hq0 : q < 0
      · exact .inl ⟨fun W => (new_none W hq0).mono fun e w' ⟨h1, h2⟩ => ⟨h1, h2 ▸ Below.refl _ W⟩, fun W => refNewD_none W q hq0⟩
      · obtain ⟨qn, rfl⟩ : ∃ n : Nat, q = (n : Int) := ⟨q.toNat, by omega⟩
        exact .inr ⟨fun W => (disk_new W qn (by omega)).mono fun e w' ⟨p, v, h1, _, _, h4⟩ => ⟨p, h1, h4⟩, fun W => (refNewD_any W qn (by omega)).mono fun e w' ⟨r, h1, M, _, _, h4⟩ => ⟨r, h1, h4⟩⟩)
    rcases HS1.out with ⟨h1, h2, hb0⟩ | ⟨p, r, S, h1, h2, hB, hL⟩
    · have HST := Lib.hid (fun W (hW : Below w2.heap.size w2 W) => (Start.next (.inl ⟨h1, h2, hb0⟩) hW : Start w W z9 z10))
      subst h1 h2
      clear hb0 HS1
      rcases QQ.out with ⟨QP, QR⟩ | ⟨QP, QR⟩
      · have QP := Lib.hid QP
        have QR := Lib.hid QR
        go_wp2_with (first
          | (go_at_call 9; (with_reducible refine (QP.out _).mono ?_); rintro e w3 ⟨rfl, hb⟩; have HB3 := Lib.hid hb; clear hb)
          | (go_at_call 10; (with_reducible refine (QR.out _).mono ?_); rintro e w4 ⟨rfl, hb⟩; have HB4 := Lib.hid hb; clear hb))
        go_meet
        exact ⟨rfl, Lib.hid (HST.out _ (Below.next HB3.out HB4.out))⟩
      · have QP := Lib.hid QP
        have QR := Lib.hid QR
        go_wp2_with (first
          | (go_at_call 9; (with_reducible refine (QP.out _).mono ?_); rintro e w3 ⟨p, rfl, hb⟩; have HB3 := Lib.hid hb; clear hb)
          | (go_at_call 10; (with_reducible refine (QR.out _).mono ?_); rintro e w4 ⟨r, rfl, hb⟩; have HB4 := Lib.hid hb; clear hb))
        go_meet
        exact ⟨rfl, Lib.hid (HST.out _ (Below.next HB3.out HB4.out))⟩
    · have HST := Lib.hid (fun W (hW : Below w2.heap.size w2 W) => (Start.next (.inr ⟨p, r, S, h1, h2, hB, hL⟩) hW : Start w W z9 z10))
      subst h1 h2
      clear hB hL HS1
      rcases QQ.out with ⟨QP, QR⟩ | ⟨QP, QR⟩
      · have QP := Lib.hid QP
        have QR := Lib.hid QR
        go_wp2_with (first
          | (go_at_call 9; (with_reducible refine (QP.out _).mono ?_); rintro e w3 ⟨rfl, hb⟩; have HB3 := Lib.hid hb; clear hb)
          | (go_at_call 10; (with_reducible refine (QR.out _).mono ?_); rintro e w4 ⟨rfl, hb⟩; have HB4 := Lib.hid hb; clear hb))
        go_meet
        exact ⟨rfl, Lib.hid (HST.out _ (Below.next HB3.out HB4.out))⟩
      · have QP := Lib.hid QP
        have QR := Lib.hid QR
        go_wp2_with (first
          | (go_at_call 9; (with_reducible refine (QP.out _).mono ?_); rintro e w3 ⟨p9, rfl, hb⟩; have HB3 := Lib.hid hb; clear hb)
          | (go_at_call 10; (with_reducible refine (QR.out _).mono ?_); rintro e w4 ⟨r9, rfl, hb⟩; have HB4 := Lib.hid hb; clear hb))
        go_meet
        exact ⟨rfl, Lib.hid (HST.out _ (Below.next HB3.out HB4.out))⟩
  case rest =>
  obtain ⟨rfl, HS2⟩ := hcut
  obtain ⟨w3, h⟩ : ∃ w3, w3 = wc := ⟨_, rfl⟩
  subst h
  clear HS1
  go_upto_region 9 with fail
  go_cut [70] from 69 to 69 (fun s70 wx => ∃ bb : Bool, s70 = .bool bb ∧ Hid (Start w wx z9 z10 ∧ (bb = true → z9 = .pointer none ∧ z10 = .pointer none) ∧ (bb = false → z9 ≠ .pointer none)))
  case first =>
    rcases HS2.out with ⟨h1, h2, hb0⟩ | ⟨p, r, S, h1, h2, hB, hL⟩
    · have hst : Start w w3 z9 z10 := .inl ⟨h1, h2, hb0⟩
      have HST := Lib.hid hst
      clear hst
      subst h1 h2
      clear hb0 HS2
      go_wp2_with fail
      go_meet
      exact ⟨true, rfl, Lib.hid ⟨HST.out, (fun _ => by simp), (fun h => by cases h)⟩⟩
    · have hst : Start w w3 z9 z10 := .inr ⟨p, r, S, h1, h2, hB, hL⟩
      have HST := Lib.hid hst
      clear hst
      subst h1 h2
      clear hB hL HS2
      go_wp2_with fail
      go_meet
      exact ⟨false, rfl, Lib.hid ⟨HST.out, (fun h => by cases h), (fun _ h => by cases h)⟩⟩
  case rest =>
  obtain ⟨bb, rfl, HS3⟩ := hcut
  obtain ⟨w4, h⟩ : ∃ w4, w4 = wc := ⟨_, rfl⟩
  subst h
  clear HS2
  go_upto_if 70 with fail
  go_cut [9, 10] from 71 to 72 (fun s9 s10 wx => ∃ p r : Nat, s9 = .pointer (some ⟨p, 0, none⟩) ∧ s10 = .pointer (some ⟨r, 0, none⟩) ∧ Hid (∃ S, Both w wx p r S S [] ∧ S.Light 40 30))
  case first =>
    cases bb with
    | true =>
      have HSB : Hid (Below w.heap.size w w4) := Lib.hid (by
        rcases HS3.out.1 with ⟨-, -, h⟩ | ⟨p, r, S, h1, -⟩
        · exact h
        · rw [(HS3.out.2.1 rfl).1] at h1
          cases h1)
      have QP : Hid (∀ W, Calls Tryz.prog 9 #[.int .i64 100] W fun e w' => ∃ p v, e = .returned (.pointer (some ⟨p, 0, none⟩)) ∧ DiskP w' p (DS.new 100) v ∧ (∀ g, All v.M g ∨ All v.I g → W.heap.size ≤ g) ∧ Below W.heap.size W w') := Lib.hid fun W => disk_new W 100 (by decide)
      have QR : Hid (∀ W, Calls Tryz.prog 10 #[.int .i64 100] W fun e w' => ∃ r, e = .returned (.pointer (some ⟨r, 0, none⟩)) ∧ FreshD W r (DS.new 100) w') := Lib.hid fun W => refNewD_any W 100 (by decide)
      go_wp2_with (first
        | (go_at_call 9; (with_reducible refine (QP.out _).mono ?_); rintro e w5 ⟨p, v, rfl, h1, h2, h3⟩; have HD5 := Lib.hid h1; have HF5 := Lib.hid h2; have HB5 := Lib.hid h3; clear h1 h2 h3)
        | (go_at_call 10; (with_reducible refine (QR.out _).mono ?_); rintro e w6 ⟨r, rfl, hb⟩; have HB6 := Lib.hid hb; clear hb))
      go_meet
      obtain ⟨M, k1, k2, k3⟩ := HB6.out
      have hz1 := HSB.out.size
      exact ⟨p, r, rfl, rfl, Lib.hid ⟨DS.new 100, Both.start HD5.out (fun g hg => Nat.le_trans hz1 (HF5.out g hg)) (Below.next HSB.out HB5.out) k1 k2 k3, (light_new 100).mono (by decide) (by decide)⟩⟩
    | false =>
      have hx : Hid (∃ p r : Nat, z9 = .pointer (some ⟨p, 0, none⟩) ∧ z10 = .pointer (some ⟨r, 0, none⟩) ∧ Hid (∃ S, Both w w4 p r S S [] ∧ S.Light 40 30)) := Lib.hid (by
        rcases HS3.out.1 with ⟨h, -, -⟩ | ⟨p, r, S, h1, h2, h3, h4⟩
        · exact absurd h (HS3.out.2.2 rfl)
        · exact ⟨p, r, h1, h2, Lib.hid ⟨S, h3, h4⟩⟩)
      go_wp2_with fail
      go_meet
      exact hx.out
  case rest =>
  obtain ⟨p, r, rfl, rfl, HS4⟩ := hcut
  obtain ⟨w5, h⟩ : ∃ w5, w5 = wc := ⟨_, rfl⟩
  subst h
  clear HS3
  go_wp2_with fail
  go_loopw [9, 11] (fun s9 s11 wr => ∃ (k p : Nat) (S : DS), k ≤ dl.length ∧ k ≤ 50 ∧ s11 = .int .i64 k ∧ s9 = .pointer (some ⟨p, 0, none⟩) ∧ Hid (Both w wr p r S S [] ∧ S.Light (40 + 3 * k) (30 + 20 * k))) (fun _ s11 _ => 50 - (intOf s11).toNat)
  case atStart =>
    obtain ⟨S, h1, h2⟩ := HS4.out
    exact ⟨0, p, S, Nat.zero_le _, Nat.zero_le _, rfl, rfl, Lib.hid ⟨h1, h2⟩⟩
  case round =>
    obtain ⟨k, p, S, hk, hk50, rfl, rfl, HB⟩ := hrel
    clear HS4
    obtain ⟨wz, h⟩ : ∃ wz, wz = wr := ⟨_, rfl⟩
    subst h
    by_cases hlk : k < dl.length ∧ k < 50
    · obtain ⟨hlt, hlt5⟩ := hlk
      have e1 : decide ((k : Int) < (dl.length : Int)) = true := decide_eq_true (by omega)
      have e1' : decide (k < dl.length) = true := decide_eq_true hlt
      have e2 : decide ((k : Int) < 50) = true := decide_eq_true (by omega)
      have e2' : decide (k < 50) = true := decide_eq_true hlt5
      obtain ⟨b, o, rfl, hbl, hda⟩ := HDC.out k hlt
      have HDA := Lib.hid (fun W (hW : Below w.heap.size w W) => hda.below hW hbl)
      have hmem : dl.getD k default ∈ dl := by
        have : dl.getD k default = dl[k] := by simp [List.getD, hlt]
        rw [this]; exact List.getElem_mem hlt
      obtain ⟨hok, hrd⟩ := HDK.out _ hmem
      have HOK := Lib.hid hok
      have HRD := Lib.hid hrd
      have hfl8 : S.Light 190 1030 := HB.out.2.mono (by omega) (by omega)
      have HF2 := Lib.hid (light_fit2 hfl8 (by decide) (by decide))
      have HL8 := Lib.hid hfl8
      obtain ⟨d, hdd⟩ : ∃ d, dl.getD k default = d := ⟨_, rfl⟩
      rw [hdd] at HDA HOK HRD
      obtain ⟨z0, z1, z2, z3, z4, z5⟩ := HDA.out wz HB.out.1.below
      clear hda hbl hok hrd hmem hdd hfl8
      have hm17 : (d.what : Int).tmod 17 = ((d.what % 17 : Nat) : Int) := by rw [Int.tmod_eq_emod_of_nonneg (by omega)]; omega
      have hm17' : (d.what : Int) % 17 = ((d.what % 17 : Nat) : Int) := by omega
      -- behind the act
      have HALI : Hid (∀ (W : World) (p' : Nat) (S' : DS), Both w W p' r S' S' [] → S'.Light (40 + 3 * (k + 1)) (30 + 20 * (k + 1)) → Calls Tryz.prog 16 #[.pointer (some ⟨p', 0, none⟩), .pointer (some ⟨r, 0, none⟩)] W fun e w' => e = .returned (.bool true) ∧ Below W.heap.size W w') := Lib.hid fun W p' S' hB hL => alike8_any hB (light_fit2 hL (by omega) (by omega))
      by_cases h16 : d.what % 17 = 16
      · have e3 : (d.what : Int).tmod 17 = 16 := by rw [hm17, h16]; rfl
        have e3' : (d.what : Int) % 17 = 16 := by rw [hm17', h16]; rfl
        have QC := Lib.hid (tri_copy HB.out.1 HF2.out.weight (fun m => Nat.le_trans (DS.Light.acts HF2.out m) (by decide)))
        obtain ⟨S1, hS1⟩ : ∃ S1, (S.create ⟨#[108, 101, 102, 116]⟩).1 = S1 := ⟨_, rfl⟩
        obtain ⟨er1, her1⟩ : ∃ er1 : Nat, (S.create ⟨#[108, 101, 102, 116]⟩).2 = er1 := ⟨_, rfl⟩
        have hl1 : S1.Light 193 1030 := hS1 ▸ light_create HL8.out _
        have HG1 := Lib.hid (light_fit2 hl1 (by decide) (by decide))
        have QCr : Hid (∀ (W : World) (c : Nat), Tri w W p S c S r S → Calls Tryz.prog 12 #[.pointer (some ⟨p, 0, none⟩), .string ⟨#[108, 101, 102, 116]⟩] W fun e w' => e = .returned (.int .i64 (er1 : Int)) ∧ Tri w w' p S1 c S r S) := Lib.hid fun W c hT => by
          rw [← hS1, ← her1]
          exact hT.went fun v hv _ => create_any hv ⟨#[108, 101, 102, 116]⟩ (by decide) HF2.out.weight HF2.out.used HF2.out.steps
        obtain ⟨S2, hS2⟩ : ∃ S2, (S1.append ⟨#[97]⟩ (⟨#[98, 101, 104, 105, 110, 100]⟩ : ByteArray).data.toList).1 = S2 := ⟨_, rfl⟩
        obtain ⟨er2, her2⟩ : ∃ er2 : Nat, (S1.append ⟨#[97]⟩ (⟨#[98, 101, 104, 105, 110, 100]⟩ : ByteArray).data.toList).2 = er2 := ⟨_, rfl⟩
        have hl2 : S2.Light 196 1050 := hS2 ▸ light_append hl1 ⟨#[97]⟩ (⟨#[98, 101, 104, 105, 110, 100]⟩ : ByteArray).data.toList (Nat.le_trans (Nat.min_le_left _ _) (by decide) : _ ≤ 20)
        have HG2 := Lib.hid (light_fit2 hl2 (by decide) (by decide))
        have QAp : Hid (∀ (W : World) (c bb : Nat), Tri w W p S1 c S r S → W.heap[bb]? = some (.cells #[.string ⟨#[98, 101, 104, 105, 110, 100]⟩] 9 (0, 0)) → Calls Tryz.prog 13 #[.pointer (some ⟨p, 0, none⟩), .string ⟨#[97]⟩, .slice (some ⟨bb, 0, none⟩) 1 1] W fun e w' => e = .returned (.int .i64 (er2 : Int)) ∧ Tri w w' p S2 c S r S) := Lib.hid fun W c bb hT hbb => by
          rw [← hS2, ← her2]
          exact hT.went fun v hv _ => disk_append hv ⟨#[97]⟩ (by decide) HG1.out.weight HG1.out.used HG1.out.steps (by have := DS.Light.heft HG1.out (foundN S1.fold.there (⟨#[97]⟩ : ByteArray).data.toList); have h6 : (⟨#[98, 101, 104, 105, 110, 100]⟩ : ByteArray).size = 6 := rfl; omega) (Nat.le_trans (DS.Light.acts HG1.out _) (by decide)) ⟨_, _, _, rfl⟩ (by decide) fun W' hW' => join_one (by decide) (hW' bb _ _ hbb (by decide))
        have QRs : Hid (∀ (W : World) (c : Nat), Tri w W p S2 c S r S → Calls Tryz.prog 14 #[.pointer (some ⟨p, 0, none⟩), .slice none 0 0] W fun e w' => e = .returned (.tuple #[]) ∧ Tri w w' p (S2.restart []) c S r S) := Lib.hid fun W c hT =>
          hT.went fun v hv _ => disk_restart hv HG2.out.weight (fun m => Nat.le_trans (DS.Light.acts HG2.out m) (by decide)) (fun m => Nat.le_trans (DS.Light.heft HG2.out m) (by decide)) ⟨none, 0, rfl, fun i hi => absurd hi (Nat.not_lt_zero _)⟩ (Nat.zero_le _) (fun bb o n c e => by cases e) (fun i => by simp [num])
        clear hS1 her1 hl1 hS2 her2 hl2 hm17 hm17' h16
        go_wp2_with (first
          | (go_at_call 11; (with_reducible refine QC.out.mono ?_); rintro e w6 ⟨c, rfl, hT⟩; have HT6 := Lib.hid hT; clear hT)
          | (go_at_call 12; (with_reducible refine (QCr.out _ c HT6.out).mono ?_); rintro e w7 ⟨rfl, hT⟩; have HT7 := Lib.hid hT; clear hT)
          | (go_at_call 13; (with_reducible refine (QAp.out _ c _ (HT7.out.next (below_alloc' (Below.refl _ w7))) (heap_alloc_new w7 _)).mono ?_); rintro e w8 ⟨rfl, hT⟩; have HT8 := Lib.hid hT; clear hT)
          | (go_at_call 14; (with_reducible refine (QRs.out _ c HT8.out).mono ?_); rintro e w9 ⟨rfl, hT⟩; have HB9 := Lib.hid (hT.both); have QA9 := Lib.hid (HALI.out _ _ _ hT.both (HB.out.2.mono (by omega) (by omega))); clear hT)
          | (go_at_call 16; (with_reducible refine QA9.out.mono ?_); rintro e w10 ⟨rfl, hq⟩; have HB10 := Lib.hid (HB9.out.next hq); clear hq))
        exact ⟨⟨k + 1, c, S, by omega, by omega, by go_num, rfl, Lib.hid ⟨HB10.out, HB.out.2.mono (by omega) (by omega)⟩⟩, by simp [intOf]; omega⟩
      · have e3 : ((d.what : Int).tmod 17 == 16) = false := by rw [hm17]; simp; omega
        have e3' : ((d.what : Int) % 17 == 16) = false := by rw [hm17']; simp; omega
        have QD := Lib.hid (does8_any HB.out.1 (HL8.out.mono (by decide) (by decide)) HOK.out HRD.out)
        simp only [Deed.vals] at QD
        clear hm17 hm17' h16
        go_wp2_with (first
          | (go_at_call 15; (with_reducible refine QD.out.mono ?_); rintro e w6 ⟨rfl, S', hB, hL⟩; have HB6 := Lib.hid hB; have HL6 := Lib.hid ((hL _ _ HB.out.2).mono (c := 40 + 3 * (k + 1)) (d := 30 + 20 * (k + 1)) (by omega) (by omega)); have QA6 := Lib.hid (HALI.out _ _ _ hB HL6.out); clear hB hL)
          | (go_at_call 16; (with_reducible refine QA6.out.mono ?_); rintro e w7 ⟨rfl, hq⟩; have HB7 := Lib.hid (HB6.out.next hq); clear hq))
        exact ⟨⟨k + 1, p, S', by omega, by omega, by go_num, rfl, Lib.hid ⟨HB7.out, HL6.out⟩⟩, by simp [intOf]; omega⟩
    · have e1 : (decide ((k : Int) < (dl.length : Int)) = false ∧ decide (k < dl.length) = false) ∨ (decide ((k : Int) < (dl.length : Int)) = true ∧ decide (k < dl.length) = true ∧ decide ((k : Int) < 50) = false ∧ decide (k < 50) = false) := by
        by_cases h : k < dl.length
        · exact .inr ⟨decide_eq_true (by omega), decide_eq_true h, decide_eq_false (by omega), decide_eq_false (by omega)⟩
        · exact .inl ⟨decide_eq_false (by omega), decide_eq_false h⟩
      have HBW := Lib.hid HB.out.1.below
      have QW := Lib.hid (works_any wz)
      rcases e1 with ⟨e1, e2⟩ | ⟨e1, e2, e3, e4⟩
      · go_wp2_with (go_at_call 17; (with_reducible refine QW.out.mono ?_); rintro e wk ⟨rfl, hb⟩; have HB9 := Lib.hid hb; clear hb)
        go_ret
        exact ⟨rfl, Below.next HBW.out HB9.out⟩
      · go_wp2_with (go_at_call 17; (with_reducible refine QW.out.mono ?_); rintro e wk ⟨rfl, hb⟩; have HB9 := Lib.hid hb; clear hb)
        go_ret
        exact ⟨rfl, Below.next HBW.out HB9.out⟩
end Go.Proofs.YtmmoilmfpiclgaaGreat

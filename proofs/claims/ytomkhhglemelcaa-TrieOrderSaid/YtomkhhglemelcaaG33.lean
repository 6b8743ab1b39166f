/-
  The law's walk: all entries behind a node, by rising words. What TrieOrder wants in plain words: entries put in any order, sizes, puts that lose nothing.
-/
import Derived.Test.YtomkhhglemelcaaG31
import Derived.Deep.RegionHeldLaw
import Derived.Deep.RegionWith
set_option linter.unusedVariables false
set_option linter.unusedSimpArgs false
namespace Go.Proofs.Ytomkhhglemelcaa
open Go.RowKit Go.Shelf

theorem off_ownsE {w : World} {base n : Nat} {v : Value} {xs : List Value} {T : TypeId} (h : w.ownsRow base 33 3 v n xs) (hne : 33 ≠ T) : OffT w v.ownBlock T := fun r cs fz e hr => by
  rcases h.2 with ⟨rfl, _⟩ | ⟨g', cap, cur, rfl, _, h2, _⟩
  · cases e
  · cases e
    rw [h2] at hr
    injection hr with hr
    injection hr with _ h3
    exact hne h3

/-- What is found behind a node, as far as i of its bytes are gone through. -/
def downE (t : Tr) (row : List UInt8) (i : Nat) : List Ent := ownT t.val row ++ (t.keys.take i).flatMap fun b => (t.way b).all (row ++ [b])
theorem downE_next (t : Tr) (row : List UInt8) (i : Nat) (h : i < t.keys.length) : downE t row (i + 1) = downE t row i ++ (t.way t.keys[i]).all (row ++ [t.keys[i]]) := by
  unfold downE
  rw [List.take_succ_eq_append_getElem h, List.flatMap_append, List.append_assoc]
  simp
theorem downE_all {t : Tr} (row : List UInt8) (h : t.isNil = false) : downE t row t.keys.length = t.all row := by
  unfold downE
  rw [List.take_length]
  exact (Tr.all_eq t row h).symm
theorem downE_le {t : Tr} (row : List UInt8) (h : t.isNil = false) : ∀ i, (downE t row i).length ≤ (t.all row).length := by
  intro i
  rw [← downE_all row h]
  unfold downE
  rw [List.length_append, List.length_append]
  refine Nat.add_le_add_left ?_ _
  rw [← List.take_append_drop i t.keys]
  rw [List.take_length, List.take_append_drop]
  conv => rhs; rw [← List.take_append_drop i t.keys, List.flatMap_append, List.length_append]
  omega
theorem all_some {t : Tr} (hg : t.Good) (h : t.isNil = false) (row : List UInt8) : 0 < (t.all row).length := by
  obtain ⟨r, v, hr⟩ := hg.some h
  have : entOf (row ++ r) v ∈ t.all row := (Tr.mem_all t row _).2 ⟨r, rfl, hr⟩
  exact List.length_pos_of_mem this
theorem all_len : ∀ (t : Tr) (r s : List UInt8), (t.all r).length = (t.all s).length
  | .nil, _, _ => rfl
  | .node v ws, r, s => by
    unfold Tr.all
    rw [List.length_append, List.length_append, List.length_flatMap, List.length_flatMap]
    have e1 : (ownT v r).length = (ownT v s).length := by cases v <;> rfl
    have e2 : (fun b => ((ws b).all (r ++ [b])).length) = fun b => ((ws b).all (s ++ [b])).length := funext fun b => all_len (ws b) _ _
    rw [e1]
    simp only [e2]
theorem below_drewN' {w0 w : World} {n : Nat} (h : Below w0.heap.size w0 w) : Below w0.heap.size w0 (w.drewN n) := h.trans ⟨rfl, rfl, rfl, Nat.le_refl _, fun _ _ => rfl⟩
theorem step_box {w w3 : World} {v u : Value} {t : Tr} {p : Option Nat} {n0 : Nat} (hn : n0 ≤ w.heap.size) (hN : NodeO (fun k => k < n0) w3 t p) (h : Boxed w3 w.heap.size 49 u) (hb : Below w.heap.size w w3) :
    Boxed (w3.setCell ⟨w.heap.size, 0, none⟩ v) w.heap.size 49 v ∧ NodeO (fun k => k < n0) (w3.setCell ⟨w.heap.size, 0, none⟩ v) t p ∧ Below w.heap.size w (w3.setCell ⟨w.heap.size, 0, none⟩ v) :=
  ⟨h.set v, hN.kept (fun _ h => h) (fun k hk _ => Below.heap_setCell _ _ _ _ (show k ≠ w.heap.size by omega)), hb.setCell (p := ⟨w.heap.size, 0, none⟩) (Nat.le_refl _) v⟩
theorem keys_rising (t : Tr) (i j : Nat) (hi : i < j) (hj : j < t.keys.length) : (t.keys[i]'(by omega)).toNat < t.keys[j].toNat := by
  have := List.pairwise_iff_getElem.1 (Tr.keys_rise t) i j (by omega) hj hi
  exact this

set_option maxHeartbeats 8000000 in
set_option maxRecDepth 100000 in
theorem walk_some : ∀ (d : Nat) (t : Tr) (q : Nat) (row : ByteArray) (w : World), NodeO (fun _ => True) w t (some q) → Tr.Slim d t → (∀ b, (t.way b).Good) → row.size + d ≤ 1000 → (t.all row.data.toList).length ≤ 1000 →
    Calls Try.prog 25 #[.agg #[.pointer (some ⟨q, 0, none⟩)], .string row] w fun e w' => ∃ v, e = .returned (.tuple #[v, .bool true]) ∧ Ents w' v (t.all row.data.toList) ∧ Below w.heap.size w w' := by
  intro d
  induction d with
  | zero =>
    intro t q row w hN hS
    have := hN.isSome
    rw [show t.isNil = true from hS] at this
    cases this
  | succ d ih =>
    intro t q row w hN hS hG hrow hall
    have hnil : t.isNil = false := by
      have := hN.isSome
      simpa using this.symm
    have hk50 := hS.1
    have IH : Hid (∀ (b : UInt8) (q' : Nat) (W : World), (t.way b).isNil = false → NodeO (fun _ => True) W (t.way b) (some q') → Calls Try.prog 25 #[.agg #[.pointer (some ⟨q', 0, none⟩)], .string (row ++ ⟨#[b]⟩)] W fun e w' => ∃ ad c, e = .returned (.tuple #[.slice ad ((t.way b).all (row.data.toList ++ [b])).length c, .bool true]) ∧ Ents w' (.slice ad ((t.way b).all (row.data.toList ++ [b])).length c) ((t.way b).all (row.data.toList ++ [b])) ∧ Below W.heap.size W w') := Lib.hid fun b q' W hb h => by
      have hle : ((t.way b).all (row.data.toList ++ [b])).length ≤ (t.all row.data.toList).length := by rw [all_len t row.data.toList (row.data.toList ++ [b])]; exact Tr.way_le t b _
      have hrs : (row ++ ⟨#[b]⟩ : ByteArray).size = row.size + 1 := by rw [ByteArray.size_append]; rfl
      have := ih (t.way b) q' (row ++ ⟨#[b]⟩) W h (hS.2 b) (fun c => (hG b).way c) (by omega) (by rw [toList_snoc]; omega)
      rw [toList_snoc] at this
      refine this.mono ?_
      rintro e w' ⟨v, rfl, h1, h2⟩
      obtain ⟨ad, c, rfl, h3⟩ := h1
      exact ⟨ad, c, rfl, ⟨ad, c, rfl, h3⟩, h2⟩
    have hb0 := below_alloc w (.cells #[.pointer (some ⟨q, 0, none⟩)] 49)
    have HV : Hid (Calls Try.prog 31 #[.agg #[.pointer (some ⟨q, 0, none⟩)]] (w.alloc (.cells #[.pointer (some ⟨q, 0, none⟩)] 49)) fun e w' => e = .returned (.tuple #[.int .u32 (vW t.val : Int), .bool (vG t.val), .bool (vI t.val)]) ∧ Below (w.alloc (.cells #[.pointer (some ⟨q, 0, none⟩)] 49)).heap.size (w.alloc (.cells #[.pointer (some ⟨q, 0, none⟩)] 49)) w') := Lib.hid (value_some (hN.below hb0))
    obtain ⟨n1, hn1⟩ : ∃ n1, n1 = vW t.val := ⟨_, rfl⟩
    obtain ⟨b2, hb2⟩ : ∃ b2, b2 = vG t.val := ⟨_, rfl⟩
    obtain ⟨b3, hb3⟩ : ∃ b3, b3 = vI t.val := ⟨_, rfl⟩
    have HO : Hid (ownT t.val row.data.toList = if b3 = true then [⟨row, n1, b2⟩] else []) := Lib.hid (by
      rw [hn1, hb2, hb3]
      cases t.val <;> rfl)
    obtain ⟨OW, hOW⟩ : ∃ OW, OW = ownT t.val row.data.toList := ⟨_, rfl⟩
    rw [← hn1, ← hb2, ← hb3] at HV
    rw [← hOW] at HO
    have HOW := Lib.hid hOW
    clear hn1 hb2 hb3 hOW
    have HNW : Hid (∀ W, Below w.heap.size w W → NodeO (fun k => k < w.heap.size) W t (some q)) := Lib.hid fun W h => hN.here.below h
    have HBX : Hid (∀ W, Below (w.alloc (.cells #[.pointer (some ⟨q, 0, none⟩)] 49)).heap.size (w.alloc (.cells #[.pointer (some ⟨q, 0, none⟩)] 49)) W → Boxed W w.heap.size 49 (.pointer (some ⟨q, 0, none⟩))) := Lib.hid fun W h => boxed_below (Boxed.new w 49 _) h
    have HG := Lib.hid hG
    have HNIL := Lib.hid hnil
    have hrow1 : row.size ≤ 999 := by omega
    have HALL := Lib.hid hall
    clear hb0 hN hG hnil hS hrow hall ih
    go_enter Try.func25, Try.ntmps25
    go_upto_if 22 with (go_at_call 31; (with_reducible refine Calls.mono HV.out ?_); rintro e w1 ⟨rfl, hb1⟩; have H1 := Lib.hid hb1; clear hb1)
    have hz1 : w.heap.size < w1.heap.size := by have := H1.out.size; simp at this; omega
    go_cut [6] from 23 to 29 (fun s6 wx => Hid (wx.ownsRow w1.heap.size 33 3 s6 OW.length (ents OW) ∧ Below w1.heap.size w1 wx))
    case first =>
      cases b3 with
      | false =>
        have HO' : Hid (OW = []) := Lib.hid (by rw [HO.out]; rfl)
        go_wp2_with fail
        go_meet
        exact Lib.hid ⟨by rw [HO'.out]; exact ownsE_nil _ _, Below.refl _ _⟩
      | true =>
        have HO' : Hid (OW = [⟨row, n1, b2⟩]) := Lib.hid (by rw [HO.out]; rfl)
        go_wp2_with (at_builtin; refine wpList_append_ents rfl _ _ rfl rfl w1.heap.size _ _ [] [⟨row, n1, b2⟩] rfl rfl (ownsE_nil _ _) (ents_single (w := w1) (x := ⟨row, n1, b2⟩) (g := w1.heap.size) rfl) (by simp) (by simp) ?_; intro v' w' o1 g1)
        go_meet
        exact Lib.hid ⟨by rw [HO'.out]; exact o1, (below_alloc _ _).grown g1 (by simp) (fun j hj => by cases hj)⟩
    case rest =>
    obtain ⟨w2, h⟩ : ∃ w2, w2 = wc := ⟨_, rfl⟩
    subst h
    have hb2 := hcut.out.2
    have c2 := (HBX.out _ (Below.next H1.out hb2)).cell
    have HB := Lib.hid (by
      have h0 : Below w.heap.size w w2 := Below.next (Below.next (below_alloc _ _) H1.out) hb2
      have := bytes_at (HNW.out _ h0).all hk50
      exact this : Calls Try.prog 32 #[.agg #[.pointer (some ⟨q, 0, none⟩)]] w2 fun e w' => ∃ v, e = .returned v ∧ BRow w' v t.keys ∧ Below w2.heap.size w2 w')
    have HK2 := Lib.hid hcut.out
    obtain ⟨ks, hks⟩ : ∃ ks, ks = t.keys := ⟨_, rfl⟩
    rw [← hks] at HB
    have hk50' : ks.length < 50 := by rw [hks]; exact hk50
    have HKS := Lib.hid hks
    clear hcut hb2 hk50 hks
    go_wp2_with (go_at_call 32; (with_reducible refine Calls.mono HB.out ?_); rintro e w3 ⟨v3, rfl, hB3, hb3⟩; obtain ⟨adk, ck, rfl, -, -⟩ := hB3.shape; have H3 := Lib.hid (And.intro hB3 hb3); clear hB3 hb3)
    obtain ⟨w4, h⟩ : ∃ w4, w4 = w3 := ⟨_, rfl⟩
    subst h
    have h14 : Below w1.heap.size w1 w4 := Below.next HK2.out.2 H3.out.2
    have HS0 := Lib.hid (And.intro (owns_below' HK2.out.1 H3.out.2) (And.intro h14 (And.intro H3.out.1 (HBX.out _ (Below.next H1.out h14)))))
    clear h14 HK2 H3 HV c2
    go_loopw [6, 11] (fun s6 s11 wr => ∃ i : Nat, i ≤ ks.length ∧ s11 = .int .i64 i ∧ Hid (wr.ownsRow w1.heap.size 33 3 s6 (downE t row.data.toList i).length (ents (downE t row.data.toList i)) ∧ Below w1.heap.size w1 wr ∧ BRow wr (.slice adk ks.length ck) ks ∧ Boxed wr w.heap.size 49 (.pointer (some ⟨q, 0, none⟩)))) (fun _ s11 _ => ks.length - (intOf s11).toNat)
    case atStart => exact ⟨0, Nat.zero_le _, rfl, Lib.hid (by
      have e : downE t row.data.toList 0 = OW := by rw [HOW.out]; unfold downE; simp
      rw [e]; exact HS0.out)⟩
    case round =>
      obtain ⟨i, hi, rfl, HI⟩ := hrel
      obtain ⟨wz, h⟩ : ∃ wz, wz = wr := ⟨_, rfl⟩
      subst h
      by_cases hlt : i < ks.length
      · obtain ⟨x, hx⟩ : ∃ x, x = ks[i] := ⟨_, rfl⟩
        obtain ⟨bk, rfl, ckx⟩ := brow_at HI.out.2.2.1 i hlt
        rw [← hx] at ckx
        have hbkl : bk < wz.heap.size := block_lt_of_cell ckx
        have cq := HI.out.2.2.2.cell
        have hwl : w.heap.size < wz.heap.size := HI.out.2.2.2.lt
        have hz1w : w1.heap.size ≤ wz.heap.size := HI.out.2.1.size
        have h0z : Below w.heap.size w wz := Below.next (Below.next (below_alloc _ _) H1.out) HI.out.2.1
        have hnx : (t.way x).isNil = false := by
          have hm : x ∈ t.keys := by rw [← HKS.out, hx]; exact List.getElem_mem hlt
          exact (Tr.mem_keys t x).1 hm
        have CX : Hid (∀ W, Below wz.heap.size wz W → W.cell? ⟨w.heap.size, 0, none⟩ = some (.pointer (some ⟨q, 0, none⟩)) ∧ W.cell? ⟨bk, i, none⟩ = some (.int .u8 (x.toNat : Int)) ∧ Below wz.heap.size wz W) := Lib.hid fun W h => ⟨(boxed_below HI.out.2.2.2 h).cell, (h.cell (p := ⟨bk, i, none⟩) hbkl).trans ckx, h⟩
        have SK := Lib.hid (fun W (h : Below wz.heap.size wz W) => law_there (HNW.out W (Below.next h0z h)) x hnx)
        have HZ := Lib.hid h0z
        have HX := Lib.hid hx
        clear h0z hx
        go_upto_region 9 with fail
        go_cut [12, 13] from 38 to 46 (fun s12 s13 wx => ∃ B q', s12 = .pointer (some ⟨B, 0, none⟩) ∧ s13 = .bool true ∧ Hid (Boxed wx B 49 (.pointer (some ⟨q', 0, none⟩)) ∧ NodeO (fun k => k < w.heap.size) wx (t.way x) (some q') ∧ Below wz.heap.size wz wx))
        case first =>
          go_region_held3 (fun W => W.cell? ⟨w.heap.size, 0, none⟩ = some (.pointer (some ⟨q, 0, none⟩)) ∧ W.cell? ⟨bk, i, none⟩ = some (.int .u8 (x.toNat : Int)) ∧ Below wz.heap.size wz W)
            ((refine CX.out _ ?_; repeat (first | with_reducible exact Below.refl _ _ | (with_reducible refine Below.drew ?_) | (with_reducible apply below_alloc') | (with_reducible apply N1) | (with_reducible refine Below.setCell ?_ (by first | exact Nat.le_refl _ | exact NZ | (simp; omega)) _))))
            ((go_at_call 30; (with_reducible refine Calls.mono (SK.out _ (by repeat (first | with_reducible exact Below.refl _ _ | (with_reducible refine Below.drew ?_) | (with_reducible apply below_alloc')))) ?_); rintro e w5 ⟨q', rfl, hN5, hb5⟩; obtain ⟨hc5, hf5⟩ := bcell hb5; have hw5 : Below wz.heap.size wz w5 := Below.next (by repeat (first | with_reducible exact Below.refl _ _ | (with_reducible refine Below.drew ?_) | (with_reducible apply below_alloc'))) hb5; have N1 := fun (h : Below wz.heap.size wz _) => Below.next h hb5; have NZ : wz.heap.size ≤ w5.heap.size := hw5.size; have H5 := Lib.hid (And.intro hN5 (And.intro hw5 hb5)); clear hN5 hw5))
          all_goals go_wp2_with fail
          all_goals go_meet
          all_goals first
            | exact ⟨_, q', rfl, rfl, Lib.hid ⟨Boxed.new w5 49 _, H5.out.1.below (below_alloc _ _), below_alloc' H5.out.2.1⟩⟩
            | exact ⟨_, q', rfl, rfl, Lib.hid (step_box (by omega) H5.out.1 (boxed_below (boxed_drew (Boxed.new wz 49 (.pointer none))) H5.out.2.2) H5.out.2.1)⟩
        case rest =>
        obtain ⟨B12, q', rfl, rfl, HP⟩ := hcut
        obtain ⟨w6, h⟩ : ∃ w6, w6 = wc := ⟨_, rfl⟩
        subst h
        have hz6 : wz.heap.size ≤ w6.heap.size := HP.out.2.2.size
        have c12 := HP.out.1.cell
        have ckx6 := (CX.out w6 HP.out.2.2).2.1
        obtain ⟨m, hm⟩ : ∃ m, m = i - 1 := ⟨_, rfl⟩
        obtain ⟨y, hy⟩ : ∃ y, y = ks.getD m 0 := ⟨_, rfl⟩
        have HLT : Hid (0 < i → m < ks.length ∧ y.toNat < x.toNat ∧ w6.cell? ⟨bk, m, none⟩ = some (.int .u8 (y.toNat : Int))) := Lib.hid fun h0 => by
          have hml : m < ks.length := by omega
          have e : y = ks[m] := by rw [hy]; simp [hml]
          refine ⟨hml, ?_, ?_⟩
          · have hk := HKS.out
            subst hk
            rw [e, HX.out]
            exact keys_rising t m i (by omega) hlt
          · obtain ⟨bk', hbk', hc'⟩ := brow_at (HI.out.2.2.1.below HP.out.2.2) m hml
            cases hbk'
            rw [e]; exact hc'
        have ei : (i : Int) - 1 = (m : Int) ∨ i = 0 := by omega
        clear hy
        have QI := Lib.hid (fun W (h : Below w6.heap.size w6 W) => IH.out x q' W hnx ((HP.out.2.1.below h).all))
        have hcv := fun (W : World) => conv_str (brow_one W x)
        have hcvd := fun (W : World) => conv_str (w := (W.alloc (.cells #[.int .u8 (x.toNat : Int)] 5)).drew) (l := [x]) (v := .slice (some ⟨W.heap.size, 0, none⟩) 1 1) (brow_one W x)
        go_upto_region 10 with fail
        go_cut [64] from 47 to 63 (fun s64 wx => s64 = .bool false ∧ ∃ n, wx = w6.drewN n)
        case first =>
          by_cases hi0 : 0 < i
          · obtain ⟨hml, hyx, cky⟩ := HLT.out hi0
            have ei1 : (i : Int) - 1 = (m : Int) := by omega
            have ei2 : IntKind.i64.wrap ((i : Int) - 1) = (m : Int) := by rw [ei1]; exact IntWalk.i64_in _ (by omega)
            have d0 : decide ((0 : Int) < (i : Int)) = true := decide_eq_true (by omega)
            have d1 : decide (x.toNat ≤ y.toNat) = false := decide_eq_false (by omega)
            have d2 : decide ((x.toNat : Int) ≤ (y.toNat : Int)) = false := decide_eq_false (by omega)
            clear ei hm HLT
            go_quiet (fail)
            go_wp2_with fail
            go_meet
            exact ⟨rfl, _, rfl⟩
          · have d0 : decide ((0 : Int) < (i : Int)) = false := decide_eq_false (by omega)
            clear ei hm HLT
            go_quiet (fail)
            go_wp2_with fail
            go_meet
            exact ⟨rfl, _, rfl⟩
        case rest =>
        obtain ⟨rfl, nq, rfl⟩ := hcut
        obtain ⟨w7, hw7⟩ : ∃ w7, w7 = w6.drewN nq := ⟨_, rfl⟩
        have H67 : Hid (Below w6.heap.size w6 w7) := Lib.hid (by rw [hw7]; exact below_drewN' (Below.refl _ _))
        have c12' : w7.cell? ⟨B12, 0, none⟩ = some (.pointer (some ⟨q', 0, none⟩)) := by rw [hw7]; exact c12
        have ckx7 : w7.cell? ⟨bk, i, none⟩ = some (.int .u8 (x.toNat : Int)) := by rw [hw7]; exact ckx6
        rw [← hw7]
        clear hw7 c12 ckx6 HLT ei hm
        go_upto_region 12 with fail
        go_cut [14, 15] from 65 to 77 (fun s14 s15 wx => ∃ ad c, s14 = .slice ad ((t.way x).all (row.data.toList ++ [x])).length c ∧ s15 = .bool true ∧ Hid (Ents wx (.slice ad ((t.way x).all (row.data.toList ++ [x])).length c) ((t.way x).all (row.data.toList ++ [x])) ∧ Below w7.heap.size w7 wx))
        case first =>
          have CX7 : Hid (∀ W, Below w7.heap.size w7 W → W.cell? ⟨B12, 0, none⟩ = some (.pointer (some ⟨q', 0, none⟩)) ∧ W.cell? ⟨bk, i, none⟩ = some (.int .u8 (x.toNat : Int)) ∧ Below w7.heap.size w7 W) := Lib.hid fun W h => ⟨(h.cell (p := ⟨B12, 0, none⟩) (block_lt_of_cell c12')).trans c12', (h.cell (p := ⟨bk, i, none⟩) (block_lt_of_cell ckx7)).trans ckx7, h⟩
          have hov : ¬ 9223372036854775807 < (row.size : Int) + 1 := by omega
          have hov' : ¬ 9223372036854775807 < row.size + 1 := by omega
          have QI7 := Lib.hid (fun W (h : Below w7.heap.size w7 W) => QI.out W (Below.next H67.out h))
          obtain ⟨cd1, cd2, -⟩ := CX7.out _ (Below.drew (Below.refl w7.heap.size w7))
          obtain ⟨ce1, ce2, -⟩ := CX7.out _ (Below.drew (below_alloc' (o := .cells #[.int .u8 (x.toNat : Int)] 5) (Below.refl w7.heap.size w7)))
          go_region_with (go_at_call 25; (with_reducible refine Calls.mono (QI7.out _ (by repeat (first | with_reducible exact Below.refl _ _ | (with_reducible refine Below.drew ?_) | (with_reducible apply below_alloc')))) ?_); rintro e w8 ⟨ad8, c8, rfl, hE8, hb8⟩; have hw8 : Below w7.heap.size w7 w8 := Below.next (by repeat (first | with_reducible exact Below.refl _ _ | (with_reducible refine Below.drew ?_) | (with_reducible apply below_alloc'))) hb8; obtain ⟨cz1, cz2, -⟩ := CX7.out w8 hw8; have H8 := Lib.hid (And.intro hE8 hw8); clear hE8 hw8)
          all_goals go_wp2_with fail
          all_goals go_meet
          all_goals exact ⟨_, _, rfl, rfl, H8⟩
        case rest =>
        obtain ⟨adm, cm, rfl, rfl, HM⟩ := hcut
        obtain ⟨w8, h⟩ : ∃ w8, w8 = wc := ⟨_, rfl⟩
        subst h
        obtain ⟨Mo, hMo⟩ : ∃ Mo, Mo = (t.way x).all (row.data.toList ++ [x]) := ⟨_, rfl⟩
        have hml : 0 < Mo.length := by rw [hMo]; exact all_some (HG.out x) hnx _
        have hmle : Mo.length ≤ 1000 := by
          rw [hMo, all_len (t.way x) (row.data.toList ++ [x]) row.data.toList]
          exact Nat.le_trans (Tr.way_le t x _) HALL.out
        rw [← hMo] at HM ⊢
        have hpl : (downE t row.data.toList i).length ≤ 1000 := Nat.le_trans (downE_le _ HNIL.out i) HALL.out
        have HPN : Hid (downE t row.data.toList (i + 1) = downE t row.data.toList i ++ Mo) := Lib.hid (by
          have hk := HKS.out
          subst hk
          rw [downE_next t row.data.toList i hlt, hMo, HX.out])
        obtain ⟨P, hP⟩ : ∃ P, P = downE t row.data.toList i := ⟨_, rfl⟩
        rw [← hP] at HPN hpl
        have HI' := Lib.hid (by have := HI.out; rw [← hP] at this; exact this : wz.ownsRow w1.heap.size 33 3 u6 P.length (ents P) ∧ Below w1.heap.size w1 wz ∧ BRow wz (.slice (some ⟨bk, 0, none⟩) ks.length ck) ks ∧ Boxed wz w.heap.size 49 (.pointer (some ⟨q, 0, none⟩)))
        have H8z : Hid (Below wz.heap.size wz w8) := Lib.hid (Below.next HP.out.2.2 (Below.next H67.out HM.out.2))
        have HOWN := Lib.hid (owns_below' HI'.out.1 H8z.out)
        have hz8 : w1.heap.size ≤ w8.heap.size := Nat.le_trans hz1w H8z.out.size
        have t0 : decide ((Mo.length : Int) = 0) = false := decide_eq_false (by omega)
        have t1 : ((Mo.length : Int) == 0) = false := by rw [beq_eq_false_iff_ne]; omega
        have t2 : (Mo.length == 0) = false := by rw [beq_eq_false_iff_ne]; omega
        have t3 : ¬ Mo.length = 0 := by omega
        have t4 : ¬ Mo = [] := fun h => by rw [h] at hml; simp at hml
        clear hMo hP
        go_wp2_with (at_builtin; refine wpList_append_ents rfl _ _ rfl rfl w1.heap.size _ _ P Mo rfl rfl HOWN.out HM.out.1 (by omega) (by omega) ?_; intro v' w' o1 g1)
        exact ⟨⟨i + 1, by omega, by go_num, Lib.hid ⟨by rw [HPN.out]; exact o1, (Below.next HI'.out.2.1 H8z.out).grown g1 hz8 (fun j hj => (HOWN.out.lt j hj).1), (HI'.out.2.2.1.below H8z.out).kept g1 (brow_apart (HI'.out.2.2.1.below H8z.out) HOWN.out), boxed_off (boxed_below HI'.out.2.2.2 H8z.out) g1 (off_ownsE HOWN.out (by decide))⟩⟩, by simp [intOf]; omega⟩
      · obtain rfl : i = ks.length := by omega
        have HE : Hid (Ents wz u6 (t.all row.data.toList) ∧ Below w.heap.size w wz) := Lib.hid ⟨by
          have h := ents_of_owns HI.out.1
          have hk := HKS.out
          subst hk
          rw [downE_all _ HNIL.out] at h
          exact h, Below.next (Below.next (below_alloc _ _) H1.out) HI.out.2.1⟩
        clear HI
        go_wp2_with fail
        go_ret2
        exact ⟨_, rfl, HE.out.1, HE.out.2⟩
end Go.Proofs.Ytomkhhglemelcaa
namespace Go.Proofs.Ytomkhhglemelcaa
open Go.RowKit Go.Shelf

theorem bare_word (x : Ent) : (bare x).word = x.word := by unfold bare; split <;> rfl
theorem bare_said' {x : Ent} (h : bare x = x) : saidE x = (x.weight, x.gone) := by
  have := bare_said x
  rw [h] at this
  have h1 := congrArg Ent.weight this
  have h2 := congrArg Ent.gone this
  exact Prod.ext h1 h2

theorem puts_inv : ∀ (l acc : List Ent), (∀ x ∈ acc, wordT x.word = true ∧ bare x = x) → ∀ x ∈ l.foldl (fun a x => if wordT x.word = true then putE a (bare x) else a) acc, wordT x.word = true ∧ bare x = x
  | [], _, h => h
  | y :: l, acc, h => by
    rw [List.foldl_cons]
    refine puts_inv l _ fun x hx => ?_
    split at hx
    · rename_i hy
      rcases mem_putE hx with rfl | hx
      · exact ⟨by rw [bare_word]; exact hy, bare_bare y⟩
      · exact h x hx
    · exact h x hx
theorem newT_inv (l : List Ent) : ∀ x ∈ (newT l).all [], wordT x.word = true ∧ bare x = x := by
  rw [newT_all]
  exact puts_inv l [] (fun x hx => by cases hx)

theorem mem_put_iff {A acc : List Ent} (hA : risingE A = true) (hs : ∀ x ∈ acc, x ∈ A) (hr : risingE acc = true) {y : Ent} (hy : y ∈ A) (x : Ent) : x ∈ putE acc y ↔ x = y ∨ x ∈ acc := by
  constructor
  · exact mem_putE
  · intro h
    by_cases hxy : x = y
    · subst hxy
      have := findE_putE x hr (key x)
      rw [if_pos rfl] at this
      exact (findE_some this).1
    · have hx : x ∈ acc := h.resolve_left hxy
      have hk : key y ≠ key x := fun e => hxy (by
        have h1 := findE_mem hA hy
        have h2 := findE_mem hA (hs x hx)
        rw [e, h2] at h1
        exact Option.some.inj h1)
      have := findE_putE y hr (key x)
      rw [if_neg hk, findE_mem hr hx] at this
      exact (findE_some this).1
theorem puts_mem {A : List Ent} (hA : risingE A = true) (hw : ∀ x ∈ A, wordT x.word = true ∧ bare x = x) : ∀ (l acc : List Ent), (∀ x ∈ l, x ∈ A) → (∀ x ∈ acc, x ∈ A) → risingE acc = true →
    risingE (l.foldl (fun a x => if wordT x.word = true then putE a (bare x) else a) acc) = true ∧ ∀ x, x ∈ l.foldl (fun a x => if wordT x.word = true then putE a (bare x) else a) acc ↔ x ∈ l ∨ x ∈ acc
  | [], acc, _, _, hr => ⟨hr, fun x => by simp⟩
  | y :: l, acc, hl, ha, hr => by
    have hy := hl y (List.mem_cons_self ..)
    rw [List.foldl_cons, if_pos (hw y hy).1, (hw y hy).2]
    have hm := mem_put_iff hA ha hr hy
    obtain ⟨h1, h2⟩ := puts_mem hA hw l (putE acc y) (fun x hx => hl x (List.mem_cons_of_mem _ hx)) (fun x hx => by
      rcases (hm x).1 hx with rfl | h
      · exact hy
      · exact ha x h) (putE_rising hr y)
    refine ⟨h1, fun x => ?_⟩
    rw [h2, hm, List.mem_cons]
    constructor
    · rintro (h | h | h)
      · exact .inl (.inr h)
      · exact .inl (.inl h)
      · exact .inr h
    · rintro ((h | h) | h)
      · exact .inr (.inl h)
      · exact .inl h
      · exact .inr (.inr h)
/-- Entries of a rising list, put in any order, are that list. -/
theorem newT_turn {A L : List Ent} (hA : risingE A = true) (hw : ∀ x ∈ A, wordT x.word = true ∧ bare x = x) (hL : ∀ x, x ∈ L ↔ x ∈ A) : (newT L).all [] = A := by
  rw [newT_all]
  obtain ⟨h1, h2⟩ := puts_mem hA hw L [] (fun x hx => (hL x).1 hx) (fun x hx => by cases hx) rfl
  refine rising_mem_ext h1 hA fun x => ?_
  exact (h2 x).trans (by rw [hL]; simp)
theorem mem_turn (A : List Ent) (k : Nat) (x : Ent) : x ∈ A.drop k ++ A.take k ↔ x ∈ A := by
  rw [List.mem_append, Or.comm, ← List.mem_append, List.take_append_drop]

/-- A put loses nothing. -/
theorem putT_length (t : Tr) (x : Ent) : (t.all []).length ≤ ((putT t x).all []).length := by
  unfold putT
  split
  · have := (put_count t x.word (saidE x)).1
    omega
  · exact Nat.le_refl _
theorem putT_wide {t : Tr} {n : Nat} (h : (t.all []).length ≤ n ∧ ∀ x ∈ t.all [], x.word.size ≤ 255) (x : Ent) : ((putT t x).all []).length ≤ n + 1 ∧ ∀ y ∈ (putT t x).all [], y.word.size ≤ 255 := putT_fit h.1 h.2 x

theorem wordsLen_le : ∀ l : List Ent, (∀ x ∈ l, x.word.size ≤ 255) → wordsLen l ≤ 255 * l.length
  | [], _ => by simp [wordsLen]
  | x :: l, h => by
    have h1 := wordsLen_le l fun y hy => h y (List.mem_cons_of_mem _ hy)
    have h2 := h x (List.mem_cons_self ..)
    have e : wordsLen (x :: l) = x.word.size + wordsLen l := by simp [wordsLen]
    rw [e, List.length_cons]; omega

theorem put_wide {t : Tr} {T : Nat} {x : Ent} {w : World} (h : TrieAt w T (fun k => k ≠ T) t) (hf : (t.all []).length ≤ 500 ∧ ∀ x ∈ t.all [], x.word.size ≤ 255) (hs : x.word.size ≤ 1000) :
    Calls Try.prog 12 #[.pointer (some ⟨T, 0, none⟩), .agg #[.string x.word, .int .u32 (x.weight : Int), .bool x.gone]] w fun e w' => e = .returned (.int .i64 (if wordT x.word = true then 0 else 7)) ∧ TrieAt w' T (fun k => k ≠ T) (putT t x) ∧ w.grownBy w' (some T) := by
  have hT := h.lt
  unfold putT
  cases hx : wordT x.word with
  | true =>
    have hwl := wordsLen_le _ hf.2
    refine (put_good t T _ x w h hx hs (by have := hf.1; omega) (by have := hf.1; omega)).mono ?_
    rintro e w' ⟨rfl, h1, h2⟩
    refine ⟨rfl, ?_, h2⟩
    rw [if_pos rfl]
    exact h1.same (fun k hk => hk.elim (fun h => h) (fun h e => by subst e; omega)) (fun h => h rfl) (fun _ _ _ => rfl)
  | false =>
    refine (put_bad T x w hx (by omega)).mono ?_
    rintro e w' ⟨rfl, hb⟩
    rw [if_neg (by simp)]
    exact ⟨by simp, h.below hb, gb_below (gb_refl w _) hb⟩

theorem sizeE_nil : sizeE [] = 0 := rfl
theorem sizeE_next (A : List Ent) (i : Nat) (h : i < A.length) : sizeE (A.take (i + 1)) = sizeE (A.take i) + (ent A i).word.size + 8 := by
  rw [take_ent A i h]
  unfold sizeE wordsLen
  simp
  omega
theorem sizeE_le (A : List Ent) (h : ∀ x ∈ A, x.word.size ≤ 255) : sizeE A ≤ 263 * A.length := by
  have := wordsLen_le A h
  unfold sizeE; omega

theorem rising_at {A : List Ent} (h : risingE A = true) (i j : Nat) (hi : i < j) (hj : j < A.length) : Plain.less (key (ent A i)) (key (ent A j)) = true := by
  have h1 : risingE (A.take j ++ A.drop j) = true := by rw [List.take_append_drop]; exact h
  rw [risingE_append] at h1
  have hm1 : ent A i ∈ A.take j := by
    rw [ent_lt (by omega : i < A.length)]
    exact List.mem_take_iff_getElem.2 ⟨i, by omega, rfl⟩
  have hm2 : ent A j ∈ A.drop j := by
    rw [ent_lt hj]
    exact List.mem_drop_iff_getElem.2 ⟨0, by omega, by simp⟩
  exact h1.2.2 _ hm1 _ hm2

/-- What a trie says of its own entries. -/
theorem get_own {t : Tr} {x : Ent} (h : x ∈ t.all []) : t.get x.word.data.toList = some (x.weight, x.gone) := by
  obtain ⟨r, h1, h2⟩ := (Tr.mem_all t [] x).1 h
  rw [List.nil_append] at h1
  rw [show x.word.data.toList = key x from rfl, h1]
  exact h2
end Go.Proofs.Ytomkhhglemelcaa

/-
  What may be laid, laid: begun. Size's closures. Size: lay with the closures that count.
-/
import Derived.Test.YtjiilmiikejnhaaDoorP13
import Derived.Test.YtjiilmiikejnhaaDoorP24
import Derived.Test.YtjiilmiikejnhaaDoorP14
import Derived.Test.YtjiilmiikejnhaaDoorP11
import Derived.Test.YtjiilmiikejnhaaDoorP08
set_option linter.unusedVariables false
set_option linter.unusedSimpArgs false
namespace Go.Proofs.YtjiilmiikejnhaaDoor
open Go.RowKit Go.Shelf

/-- All blocks of a laying that goes on. -/
structure LW (w W : World) (p base A : Nat) (L : List UInt8) (v : Value) (init : Nat) : Prop where
  wr : Wr W p base L
  box : FstB W A v init
  k : Kp (fun g => base ≤ g) w W
  lo : base ≤ w.heap.size
  hp : base ≤ p
theorem uq_fst {w : World} {A init : Nat} {v : Value} (h : FstB w A v init) : Uq (.cells #[v, .int .u64 (init : Int)] 25 (0, 0)) := ⟨_, _, _, rfl, .inl rfl⟩
theorem LW.next {w W W' : World} {p base A init : Nat} {L L' : List UInt8} {v : Value} (h : LW w W p base A L v init) (hr : Wr W' p base L') (hk : Kp (fun g => base ≤ g) W W') (hu : KeepU W W') : LW w W' p base A L' v init :=
  ⟨hr, hu _ _ h.box (uq_fst h.box), h.k.trans hk (fun g e => .inl e), h.lo, h.hp⟩
theorem LW.alloc {w W : World} {p base A init : Nat} {L : List UInt8} {v : Value} (h : LW w W p base A L v init) (o : Obj) : LW w (W.alloc o) p base A L v init :=
  h.next (h.wr.below (below_alloc W o)) (Kp.below (below_alloc W o)) (KeepU.below (below_alloc W o))
theorem LW.below {w W : World} {p base A init : Nat} {L : List UInt8} {v : Value} (h : LW w W p base A L v init) : Below base w W := h.k.to h.lo fun g e => e
theorem nums2 (W : World) (a b : Nat) : Nums (W.alloc (.cells #[.int .u64 (a : Int), .int .u64 (b : Int)] 23)) (.slice (some ⟨W.heap.size, 0, none⟩) 2 2) [a, b] := by
  refine ⟨_, _, rfl, fun i hi => ⟨W.heap.size, 0, rfl, ?_⟩⟩
  rw [Nat.zero_add, cell_of_row _ _ _ _ _ _ (heap_alloc_new W _)]
  have hi' : i < 2 := hi
  match i, hi' with
  | 0, _ => rfl
  | 1, _ => rfl
theorem nums1 (W : World) (a : Nat) : Nums (W.alloc (.cells #[.int .u64 (a : Int)] 23)) (.slice (some ⟨W.heap.size, 0, none⟩) 1 1) [a] := by
  refine ⟨_, _, rfl, fun i hi => ⟨W.heap.size, 0, rfl, ?_⟩⟩
  rw [Nat.zero_add, cell_of_row _ _ _ _ _ _ (heap_alloc_new W _)]
  have hi' : i < 1 := hi
  match i, hi' with
  | 0, _ => rfl

theorem nums2' {W : World} {a b g : Nat} {x y : Int} (hg : g = W.heap.size) (hx : x = (a : Int)) (hy : y = (b : Int)) : Nums (W.alloc (.cells #[.int .u64 x, .int .u64 y] 23)) (.slice (some ⟨g, 0, none⟩) 2 2) [a, b] := by rw [hg, hx, hy]; exact nums2 W a b
theorem nums1' {W : World} {a g : Nat} {x : Int} (hg : g = W.heap.size) (hx : x = (a : Int)) : Nums (W.alloc (.cells #[.int .u64 x] 23)) (.slice (some ⟨g, 0, none⟩) 1 1) [a] := by rw [hg, hx]; exact nums1 W a
theorem arc_facts {k j : Nat} {y : DSt} (hm : mayS k y = true) (hy : y.ok) (hj : j < y.arcs.length) : (arcAt y.arcs j).b < 256 ∧ (arcAt y.arcs j).out < 18446744073709551616 ∧ ∃ t : Nat, (arcAt y.arcs j).to = (t : Int) ∧ t < k := by
  rw [arcAt_lt hj]
  have h1 := hy.1 _ (List.getElem_mem hj)
  unfold mayS at hm
  rw [Bool.and_eq_true, Bool.and_eq_true, List.all_eq_true] at hm
  have h2 := hm.2.2 _ (List.getElem_mem hj)
  unfold mayA at h2
  rw [Bool.and_eq_true, decide_eq_true_eq, decide_eq_true_eq] at h2
  exact ⟨h1.1, h1.2.1, (y.arcs[j]).to.toNat, by omega, by omega⟩
theorem flat_le (f : DArc → List UInt8) {l : List DArc} {j : Nat} (hj : j < l.length) : ((l.take j).flatMap f).length + (f (arcAt l j)).length ≤ (l.flatMap f).length ∧ (l.take (j + 1)).flatMap f = (l.take j).flatMap f ++ f (arcAt l j) := by
  have e : (l.take (j + 1)).flatMap f = (l.take j).flatMap f ++ f (arcAt l j) := by
    rw [arcAt_lt hj, List.take_add_one, List.getElem?_eq_getElem hj, List.flatMap_append]
    simp
  refine ⟨?_, e⟩
  have h := congrArg List.length (congrArg (List.flatMap f) (List.take_append_drop (j + 1) l))
  rw [List.flatMap_append, List.length_append, e, List.length_append] at h
  omega
theorem StB.ku {w w' : World} {p : Nat} {v : Value} {f : Bool} {n : Nat} (h : StB w p v f n) (hu : KeepU w w') : StB w' p v f n := hu _ _ h ⟨_, _, _, rfl, .inr (.inl rfl)⟩
theorem laySs_take : ∀ {l : List DSt} {o k : Nat}, k < l.length → laySs o (l.take (k + 1)) = laySs o (l.take k) ++ layS (o + k) (stAt l k)
  | [], _, _, h => by simp at h
  | s :: l, o, 0, _ => by simp [laySs, stAt]
  | s :: l, o, k + 1, h => by
    have := laySs_take (l := l) (o := o + 1) (k := k) (by simpa using h)
    rw [List.take_succ_cons, List.take_succ_cons]
    unfold laySs
    rw [this, List.append_assoc, show o + 1 + k = o + (k + 1) by omega]
    rfl
theorem laySs_le : ∀ {l : List DSt} {o k : Nat}, k ≤ l.length → (laySs o (l.take k)).length ≤ (laySs o l).length
  | _, _, 0, _ => by simp [laySs]
  | [], _, k + 1, h => by simp at h
  | s :: l, o, k + 1, h => by
    rw [List.take_succ_cons]
    unfold laySs
    rw [List.length_append, List.length_append]
    have := laySs_le (l := l) (o := o + 1) (k := k) (by simpa using h)
    omega
/-- What is laid ahead of the states; ahead of one of them. -/
def preT (n m : Nat) : List UInt8 := magicL ++ (Plain.enc n ++ Plain.enc m)
theorem layT_len (n init k : Nat) (l : List DSt) (hk : k < l.length) : (preT n l.length ++ laySs 0 (l.take k)).length + (layS k (stAt l k)).length + (Plain.enc init).length ≤ (layT n l init).length := by
  have h1 := laySs_take (o := 0) hk
  have h2 := laySs_le (l := l) (o := 0) (k := k + 1) (by omega)
  rw [h1, List.length_append, Nat.zero_add] at h2
  have h3 : layT n l init = preT n l.length ++ laySs 0 l ++ Plain.enc init := rfl
  rw [h3, List.length_append, List.length_append, List.length_append]
  omega
theorem maySs_at : ∀ {l : List DSt} {o i : Nat}, maySs o l = true → i < l.length → mayS (o + i) (stAt l i) = true
  | [], _, _, _, h => by simp at h
  | s :: l, o, 0, h, _ => by
    unfold maySs at h
    rw [Bool.and_eq_true] at h
    exact h.1
  | s :: l, o, i + 1, h, hi => by
    unfold maySs at h
    rw [Bool.and_eq_true] at h
    rw [show o + (i + 1) = o + 1 + i by omega]
    exact maySs_at h.2 (by simpa using hi)
theorem encs_two (a b : Nat) : Plain.encs [a, b] = Plain.enc a ++ Plain.enc b := by simp [Plain.encs]
theorem encs_one (a : Nat) : Plain.encs [a] = Plain.enc a := by simp [Plain.encs]

set_option maxHeartbeats 4000000 in
set_option maxRecDepth 100000 in
theorem lay_put {w w00 : World} {p base n init : Nat} {v : Value} {l : List DSt} (hW : Wr w p base []) (hp : base ≤ p) (hlo : base ≤ w.heap.size) (hS : Sts w00 v l) (h00 : w00.heap.size = base) (hb00 : Below base w00 w) (hn : n ≤ 100000) (hi : init < 18446744073709551616) (hl : l.length ≤ 100000) (hm : maySs 0 l = true) (hok : ∀ s ∈ l, s.ok) (hB : (layT n l init).length ≤ 1000000000) :
    Calls Tryd.prog 26 #[.int .i64 (n : Int), .agg #[v, .int .u64 (init : Int)], .func (.func 27) #[.pointer (some ⟨p, 0, none⟩)] #[], .func (.func 28) #[.pointer (some ⟨p, 0, none⟩)] #[]] w
      fun e w' => e = .returned (.tuple #[]) ∧ Wr w' p base (layT n l init) ∧ Kp (fun g => base ≤ g) w w' := by
  obtain ⟨ad, c, rfl, hc⟩ := hS
  have HS : Hid (∀ i, i < l.length → ∃ b o ad2 c2, ad = some ⟨b, o, none⟩ ∧ (∀ W, Below base w W → W.cell? ⟨b, o + i * 3, none⟩ = some (.slice ad2 (stAt l i).arcs.length c2) ∧ W.cell? ⟨b, o + i * 3 + 1, none⟩ = some (.bool (stAt l i).fin) ∧ W.cell? ⟨b, o + i * 3 + 2, none⟩ = some (.int .u64 ((stAt l i).out : Int))) ∧
      ∀ j, j < (stAt l i).arcs.length → ∃ b2 o2, ad2 = some ⟨b2, o2, none⟩ ∧ ∀ W, Below base w W → ArcIn W b2 (o2 + j * 3) (arcAt (stAt l i).arcs j)) := Lib.hid fun i hi => by
    subst h00
    obtain ⟨b, o, e, vx, h1, h2, h3, ad2, c2, rfl, h4⟩ := hc i hi
    refine ⟨b, o, ad2, c2, e, fun W hW => ?_, fun j hj => ?_⟩
    · have hs := (hb00.trans hW).block b (block_lt_of_cell h1)
      exact ⟨(cell_same hs).trans h1, (cell_same hs).trans h2, (cell_same hs).trans h3⟩
    · obtain ⟨b2, o2, e2, hE⟩ := h4 j hj
      exact ⟨b2, o2, e2, fun W hW => hE.later (hb00.trans hW)⟩
  have HM := Lib.hid (And.intro hm (And.intro hok hB))
  have HW := Lib.hid (And.intro hW (And.intro hp hlo))
  have en : IntKind.u64.wrap (n : Int) = (n : Int) := IntWalk.u64_in _ (by omega)
  have el : IntKind.u64.wrap (l.length : Int) = (l.length : Int) := IntWalk.u64_in _ (by omega)
  clear hc hm hok hB hW hp hlo h00 hb00
  go_enter Tryd.func26, Tryd.ntmps26
  go_upto_region 1 with fail
  have h0 : LW w (w.alloc (.cells #[.slice ad l.length c, .int .u64 (init : Int)] 25)) p base w.heap.size [] (.slice ad l.length c) init := ⟨HW.out.1.below (below_alloc w _), heap_alloc_new w _, Kp.below (below_alloc w _), HW.out.2.2, HW.out.2.1⟩
  have hwb : ∃ w1, w1 = w.alloc (.cells #[.slice ad l.length c, .int .u64 (init : Int)] 25) := ⟨_, rfl⟩
  obtain ⟨w1, hw1⟩ := hwb
  rw [← hw1] at h0 ⊢
  have H0 := Lib.hid h0
  clear hw1 h0
  go_wp2
  go_loopw [14] (fun s14 wr => ∃ k : Nat, k ≤ 3 ∧ s14 = .int .i64 k ∧ Hid (LW w wr p base w.heap.size (magicL.take k) (.slice ad l.length c) init)) (fun s14 _ => 3 - (intOf s14).toNat)
  case atStart => exact ⟨0, by omega, rfl, Lib.hid H0.out⟩
  case round =>
    obtain ⟨k, hk, rfl, HR⟩ := hrel
    by_cases hlt : k < 3
    · have d0 : decide ((k : Int) < 3) = true := by simp only [decide_eq_true_eq]; omega
      have h3 : k < (⟨#[67, 83, 1]⟩ : ByteArray).size := hlt
      have hnx : magicL.take (k + 1) = magicL.take k ++ [(⟨#[67, 83, 1]⟩ : ByteArray)[k]'h3] := by
        rw [magic_at h3]
        obtain rfl | rfl | rfl : k = 0 ∨ k = 1 ∨ k = 2 := by omega
        all_goals rfl
      have hix : (k : Int) < 3 := by omega
      have QL := Lib.hid (wletter_any HR.out.wr HR.out.hp (by simp [magicL]; omega) ((⟨#[67, 83, 1]⟩ : ByteArray)[k]'h3))
      have HNX := Lib.hid hnx
      have hwr : IntKind.i64.wrap ((k : Int) + 1) = ((k + 1 : Nat) : Int) := by rw [IntWalk.i64_in _ (by omega)]; omega
      clear hnx
      go_wp2_with (go_at_call 27; (with_reducible refine QL.out.mono ?_); rintro e' w2 ⟨rfl, g1, g2, g3⟩; have HL := Lib.hid (HR.out.next g1 g2 g3); clear g1 g2 g3)
      refine ⟨?_, ?_⟩
      · exact ⟨k + 1, by omega, rfl, Lib.hid (HNX.out ▸ HL.out)⟩
      · simp [intOf]; omega
    · have d0 : decide ((k : Int) < 3) = false := by simp only [decide_eq_false_iff_not]; omega
      obtain rfl : k = 3 := by omega
      have q0 := HR.out.box.at0
      have QN := Lib.hid (wnumbers_any (ns := [n, l.length]) ((HR.out.wr).below (below_alloc wr (.cells #[.int .u64 (n : Int), .int .u64 (l.length : Int)] 23))) HR.out.hp (by simp [magicL]) (nums2 wr n l.length) (by intro x hx; simp at hx; omega) (by simp))
      go_wp2_with (go_at_call 28; (with_reducible refine QN.out.mono ?_); rintro e' w2 ⟨rfl, g1, g2, g3⟩; have H2 := Lib.hid ((HR.out.alloc _).next g1 g2 g3); have q2 := H2.out.box.at0; clear g1 g2 g3)
      have H2' : Hid (LW w w2 p base w.heap.size (preT n l.length ++ laySs 0 (l.take 0)) (.slice ad l.length c) init) := Lib.hid (by
        have h := H2.out
        rw [encs_two] at h
        have e : preT n l.length ++ laySs 0 (l.take 0) = List.take 3 magicL ++ (Plain.enc n ++ Plain.enc l.length) := by simp [preT, laySs, magicL]
        rw [e]
        exact h)
      go_loopw [34] (fun s34 wr => ∃ k : Nat, k ≤ l.length ∧ s34 = .int .i64 k ∧ Hid (LW w wr p base w.heap.size (preT n l.length ++ laySs 0 (l.take k)) (.slice ad l.length c) init)) (fun s34 _ => l.length - (intOf s34).toNat)
      case atStart => exact ⟨0, by omega, rfl, Lib.hid H2'.out⟩
      case round =>
        obtain ⟨k, hk, rfl, HR2⟩ := hrel
        obtain ⟨wo, hwo⟩ : ∃ wo, wo = wr := ⟨_, rfl⟩
        subst hwo
        by_cases hlt : k < l.length
        · have d1 : decide ((k : Int) < (l.length : Int)) = true := by simp only [decide_eq_true_eq]; omega
          have ix : (k : Int) < (l.length : Int) := by omega
          obtain ⟨b, o, ad2, c2, rfl, hcells, hA⟩ := HS.out k hlt
          obtain ⟨h1, h2, h3⟩ := hcells wo HR2.out.below
          clear hcells
          have HLEN := Lib.hid (Nat.le_trans (layT_len n init k l hlt) HM.out.2.2)
          have hmay := maySs_at HM.out.1 hlt
          rw [Nat.zero_add] at hmay
          have hyk := HM.out.2.1 (stAt l k) (by rw [stAt_lt hlt]; exact List.getElem_mem hlt)
          have HTK := Lib.hid (laySs_take (o := 0) hlt)
          obtain ⟨y, hy⟩ : ∃ y, stAt l k = y := ⟨_, rfl⟩
          rw [hy] at h1 h2 h3 hA HLEN hmay hyk HTK
          clear hy
          have h256 : y.arcs.length ≤ 256 := by
            unfold mayS at hmay
            rw [Bool.and_eq_true] at hmay
            simpa using hmay.1
          have HMY := Lib.hid (And.intro hmay hyk)
          have HAR := Lib.hid hA
          have ec : IntKind.u64.wrap (y.arcs.length : Int) = (y.arcs.length : Int) := IntWalk.u64_in _ (by omega)
          have em : IntKind.u64.wrap (2 * (y.arcs.length : Int)) = ((2 * y.arcs.length : Nat) : Int) := by rw [IntWalk.u64_in _ (by omega)]; omega
          have ea : IntKind.u64.wrap (((2 * y.arcs.length : Nat) : Int) + 1) = ((2 * y.arcs.length + 1 : Nat) : Int) := by rw [IntWalk.u64_in _ (by omega)]; omega
          clear hmay hyk hA
          cases hf : y.fin with
          | true =>
            rw [hf] at h2
            have HF := Lib.hid hf
            clear hf
            have hst : StB ((wo.alloc (.cells #[.slice ad2 y.arcs.length c2, .bool true, .int .u64 (y.out : Int)] 64)).alloc (.cells #[.int .u64 (2 * (y.arcs.length : Int) + 1), .int .u64 (y.out : Int)] 23)) wo.heap.size (.slice ad2 y.arcs.length c2) true y.out := (alloc_old _ _ (by simp)).trans (heap_alloc_new wo _)
            have hLW := (HR2.out.alloc (.cells #[.slice ad2 y.arcs.length c2, .bool true, .int .u64 (y.out : Int)] 64)).alloc (.cells #[.int .u64 (2 * (y.arcs.length : Int) + 1), .int .u64 (y.out : Int)] 23)
            have QN2 := Lib.hid (wnumbers_any (ns := [2 * y.arcs.length + 1, y.out]) (v := .slice (some ⟨wo.heap.size + 1, 0, none⟩) 2 2) hLW.wr HR2.out.hp (by have := HLEN.out; omega) (nums2' (by simp) (by omega) rfl) (by intro x hx; simp at hx; have := HMY.out.2.2; omega) (by simp))
            have HLW := Lib.hid (And.intro hst hLW)
            have hhd : Plain.encs [2 * y.arcs.length + 1, y.out] = headS y := by unfold headS; rw [HF.out]; simp [Plain.encs]
            have HHD := Lib.hid hhd
            clear hst hLW hhd
            go_wp2_with (go_at_call 28; (with_reducible refine QN2.out.mono ?_); rintro e' w4 ⟨rfl, g1, g2, g3⟩; have S4 := HLW.out.1.ku g3; have q4 := S4.at0; have H4 := Lib.hid (And.intro (HLW.out.2.next g1 g2 g3) S4); clear g1 g2 g3 S4)
            go_loopw [60] (fun s60 wi => ∃ j : Nat, j ≤ y.arcs.length ∧ s60 = .int .i64 j ∧ Hid (LW w wi p base w.heap.size (preT n l.length ++ laySs 0 (l.take k) ++ headS y ++ (y.arcs.take j).flatMap (layA k)) (.slice (some ⟨b, o, none⟩) l.length c) init ∧ StB wi wo.heap.size (.slice ad2 y.arcs.length c2) true y.out)) (fun s60 _ => y.arcs.length - (intOf s60).toNat)
            case atStart => exact ⟨0, by omega, rfl, Lib.hid ⟨by rw [List.take_zero, List.flatMap_nil, List.append_nil, ← HHD.out]; exact H4.out.1, H4.out.2⟩⟩
            case round =>
              obtain ⟨j, hj, rfl, HI⟩ := hrel
              obtain ⟨wi, hwi⟩ : ∃ wi, wi = wr := ⟨_, rfl⟩
              subst hwi
              by_cases hltj : j < y.arcs.length
              · have d3 : decide ((j : Int) < (y.arcs.length : Int)) = true := by simp only [decide_eq_true_eq]; omega
                have ixj : (j : Int) < (y.arcs.length : Int) := by omega
                obtain ⟨b2, o2, rfl, hE⟩ := HAR.out j hltj
                obtain ⟨a1, a2, a3⟩ := hE wi HI.out.1.below
                have HZ := Lib.hid (arc_facts HMY.out.1 HMY.out.2 hltj)
                have HFL := Lib.hid (flat_le (layA k) hltj)
                clear hE
                obtain ⟨z, hz⟩ : ∃ z, arcAt y.arcs j = z := ⟨_, rfl⟩
                rw [hz] at a1 a2 a3 HZ HFL
                clear hz
                obtain ⟨zb, zo, zt⟩ := z
                obtain ⟨hz1, hz2, t, rfl, hz3⟩ := HZ.out
                dsimp only at a1 a2 a3 hz1 hz2 hz3
                obtain ⟨d, hd⟩ : ∃ d : Nat, (d : Int) = (k : Int) - (t : Int) := ⟨k - t, by omega⟩
                have es : IntKind.i64.wrap ((k : Int) - (t : Int)) = (d : Int) := by rw [← hd, IntWalk.i64_in _ (by omega)]
                have eu : IntKind.u64.wrap (d : Int) = (d : Int) := IntWalk.u64_in _ (by omega)
                have hla : layA k ⟨zb, zo, t⟩ = [UInt8.ofNat zb] ++ Plain.encs [zo, d] := by
                  unfold layA
                  rw [encs_two, ← hd]
                  rfl
                have hbz : (UInt8.ofNat zb).toNat = zb := by simp; omega
                have hlen : (preT n l.length ++ laySs 0 (l.take k) ++ headS y ++ (y.arcs.take j).flatMap (layA k)).length + (layA k ⟨zb, zo, t⟩).length ≤ 1000000000 := by
                  have h1 := HLEN.out
                  have h2 := HFL.out.1
                  unfold layS at h1
                  simp only [List.length_append] at h1 ⊢
                  omega
                rw [hla] at hlen
                simp only [List.length_append] at hlen
                have hlw := HI.out.1.alloc (.cells #[.int .u8 (zb : Int), .int .u64 (zo : Int), .int .i64 (t : Int)] 66)
                have ql := wletter_any hlw.wr HR2.out.hp (by simp only [List.length_append]; omega) (UInt8.ofNat zb)
                rw [hbz] at ql
                have QL3 := Lib.hid ql
                have hst3 : StB (wi.alloc (.cells #[.int .u8 (zb : Int), .int .u64 (zo : Int), .int .i64 (t : Int)] 66)) wo.heap.size (.slice (some ⟨b2, o2, none⟩) y.arcs.length c2) true y.out := (alloc_old _ _ HI.out.2.lt).trans HI.out.2
                have HLW3 := Lib.hid (And.intro hlw hst3)
                have HLEN3 := Lib.hid hlen
                have HLA := Lib.hid (HFL.out.2.trans (by rw [hla]) : (y.arcs.take (j + 1)).flatMap (layA k) = (y.arcs.take j).flatMap (layA k) ++ ([UInt8.ofNat zb] ++ Plain.encs [zo, d]))
                have hwj : IntKind.i64.wrap ((j : Int) + 1) = ((j + 1 : Nat) : Int) := by rw [IntWalk.i64_in _ (by omega)]; omega
                have HD := Lib.hid hd
                have HZ2 := Lib.hid hz2
                clear hlw ql hst3 hlen hla hbz hd hz1 hz2 hz3
                go_wp2_with (first
                             | (go_at_call 27
                                (with_reducible refine QL3.out.mono ?_)
                                go_loud (
                                rintro e' w5 ⟨rfl, g1, g2, g3⟩
                                have h5 := HLW3.out.1.next g1 g2 g3
                                have hab : w5.heap[wi.heap.size]? = some (.cells #[.int .u8 (zb : Int), .int .u64 (zo : Int), .int .i64 (t : Int)] 66 (0, 0)) := g3 _ _ (heap_alloc_new wi _) ⟨_, _, _, rfl, .inr (.inr rfl)⟩
                                have k1 : w5.cell? ⟨wi.heap.size, 1, none⟩ = some (.int .u64 (zo : Int)) := by rw [cell_of_row w5 _ 1 _ _ _ hab]; rfl
                                have k2 : w5.cell? ⟨wi.heap.size, 2, none⟩ = some (.int .i64 (t : Int)) := by rw [cell_of_row w5 _ 2 _ _ _ hab]; rfl
                                have h5a := h5.alloc (.cells #[.int .u64 (zo : Int), .int .u64 (d : Int)] 23)
                                have hle5 : (preT n l.length ++ laySs 0 (l.take k) ++ headS y ++ (y.arcs.take j).flatMap (layA k) ++ [UInt8.ofNat zb]).length ≤ 1000000000 := by simp only [List.length_append]; have := HLEN3.out; omega
                                have hns5 : ∀ x ∈ [zo, d], x < 18446744073709551616 := by intro x hx; simp at hx; have := HZ2.out; have := HD.out; omega
                                have qn3 := wnumbers_any h5a.wr HR2.out.hp hle5 (nums2 w5 zo d) hns5 (by simp)
                                have QN3 := Lib.hid qn3
                                have hs4 := HLW3.out.2.ku g3
                                have hs5 : StB (w5.alloc (.cells #[.int .u64 (zo : Int), .int .u64 (d : Int)] 23)) wo.heap.size (.slice (some ⟨b2, o2, none⟩) y.arcs.length c2) true y.out := (alloc_old w5 _ hs4.lt).trans hs4
                                have H5 := Lib.hid (And.intro h5a hs5)
                                clear g1 g2 g3 h5 hab h5a hs4 hs5 hle5 hns5 qn3))
                             | (go_at_call 28; (with_reducible refine QN3.out.mono ?_); rintro e' w6 ⟨rfl, g1, g2, g3⟩; have H6 := Lib.hid (And.intro (H5.out.1.next g1 g2 g3) (H5.out.2.ku g3)); clear g1 g2 g3))
                refine ⟨?_, ?_⟩
                · exact ⟨j + 1, by omega, rfl, Lib.hid ⟨by have h := H6.out.1; rw [HLA.out, ← List.append_assoc, ← List.append_assoc]; exact h, H6.out.2⟩⟩
                · simp [intOf]; omega
              · have d3 : decide ((j : Int) < (y.arcs.length : Int)) = false := by simp only [decide_eq_false_iff_not]; omega
                obtain rfl : j = y.arcs.length := by omega
                have hwk : IntKind.i64.wrap ((k : Int) + 1) = ((k + 1 : Nat) : Int) := by rw [IntWalk.i64_in _ (by omega)]; omega
                go_wp2
                refine ⟨?_, ?_⟩
                · exact ⟨k + 1, by omega, rfl, Lib.hid (by have h := HI.out.1; rw [List.take_length] at h; rw [HTK.out, Nat.zero_add, ← List.append_assoc]; unfold layS; rw [← List.append_assoc]; exact h)⟩
                · simp [intOf]; omega
          | false =>
            rw [hf] at h2
            have HF := Lib.hid hf
            clear hf
            have hst : StB ((wo.alloc (.cells #[.slice ad2 y.arcs.length c2, .bool false, .int .u64 (y.out : Int)] 64)).alloc (.cells #[.int .u64 (2 * (y.arcs.length : Int))] 23)) wo.heap.size (.slice ad2 y.arcs.length c2) false y.out := (alloc_old _ _ (by simp)).trans (heap_alloc_new wo _)
            have hLW := (HR2.out.alloc (.cells #[.slice ad2 y.arcs.length c2, .bool false, .int .u64 (y.out : Int)] 64)).alloc (.cells #[.int .u64 (2 * (y.arcs.length : Int))] 23)
            have QN2 := Lib.hid (wnumbers_any (ns := [2 * y.arcs.length]) (v := .slice (some ⟨wo.heap.size + 1, 0, none⟩) 1 1) hLW.wr HR2.out.hp (by have := HLEN.out; omega) (nums1' (by simp) (by omega)) (by intro x hx; simp at hx; have := HMY.out.2.2; omega) (by simp))
            have HLW := Lib.hid (And.intro hst hLW)
            have hhd : Plain.encs [2 * y.arcs.length] = headS y := by unfold headS; rw [HF.out]; simp [Plain.encs]
            have HHD := Lib.hid hhd
            clear hst hLW hhd
            go_wp2_with (go_at_call 28; (with_reducible refine QN2.out.mono ?_); rintro e' w4 ⟨rfl, g1, g2, g3⟩; have S4 := HLW.out.1.ku g3; have q4 := S4.at0; have H4 := Lib.hid (And.intro (HLW.out.2.next g1 g2 g3) S4); clear g1 g2 g3 S4)
            go_loopw [60] (fun s60 wi => ∃ j : Nat, j ≤ y.arcs.length ∧ s60 = .int .i64 j ∧ Hid (LW w wi p base w.heap.size (preT n l.length ++ laySs 0 (l.take k) ++ headS y ++ (y.arcs.take j).flatMap (layA k)) (.slice (some ⟨b, o, none⟩) l.length c) init ∧ StB wi wo.heap.size (.slice ad2 y.arcs.length c2) false y.out)) (fun s60 _ => y.arcs.length - (intOf s60).toNat)
            case atStart => exact ⟨0, by omega, rfl, Lib.hid ⟨by rw [List.take_zero, List.flatMap_nil, List.append_nil, ← HHD.out]; exact H4.out.1, H4.out.2⟩⟩
            case round =>
              obtain ⟨j, hj, rfl, HI⟩ := hrel
              obtain ⟨wi, hwi⟩ : ∃ wi, wi = wr := ⟨_, rfl⟩
              subst hwi
              by_cases hltj : j < y.arcs.length
              · have d3 : decide ((j : Int) < (y.arcs.length : Int)) = true := by simp only [decide_eq_true_eq]; omega
                have ixj : (j : Int) < (y.arcs.length : Int) := by omega
                obtain ⟨b2, o2, rfl, hE⟩ := HAR.out j hltj
                obtain ⟨a1, a2, a3⟩ := hE wi HI.out.1.below
                have HZ := Lib.hid (arc_facts HMY.out.1 HMY.out.2 hltj)
                have HFL := Lib.hid (flat_le (layA k) hltj)
                clear hE
                obtain ⟨z, hz⟩ : ∃ z, arcAt y.arcs j = z := ⟨_, rfl⟩
                rw [hz] at a1 a2 a3 HZ HFL
                clear hz
                obtain ⟨zb, zo, zt⟩ := z
                obtain ⟨hz1, hz2, t, rfl, hz3⟩ := HZ.out
                dsimp only at a1 a2 a3 hz1 hz2 hz3
                obtain ⟨d, hd⟩ : ∃ d : Nat, (d : Int) = (k : Int) - (t : Int) := ⟨k - t, by omega⟩
                have es : IntKind.i64.wrap ((k : Int) - (t : Int)) = (d : Int) := by rw [← hd, IntWalk.i64_in _ (by omega)]
                have eu : IntKind.u64.wrap (d : Int) = (d : Int) := IntWalk.u64_in _ (by omega)
                have hla : layA k ⟨zb, zo, t⟩ = [UInt8.ofNat zb] ++ Plain.encs [zo, d] := by
                  unfold layA
                  rw [encs_two, ← hd]
                  rfl
                have hbz : (UInt8.ofNat zb).toNat = zb := by simp; omega
                have hlen : (preT n l.length ++ laySs 0 (l.take k) ++ headS y ++ (y.arcs.take j).flatMap (layA k)).length + (layA k ⟨zb, zo, t⟩).length ≤ 1000000000 := by
                  have h1 := HLEN.out
                  have h2 := HFL.out.1
                  unfold layS at h1
                  simp only [List.length_append] at h1 ⊢
                  omega
                rw [hla] at hlen
                simp only [List.length_append] at hlen
                have hlw := HI.out.1.alloc (.cells #[.int .u8 (zb : Int), .int .u64 (zo : Int), .int .i64 (t : Int)] 66)
                have ql := wletter_any hlw.wr HR2.out.hp (by simp only [List.length_append]; omega) (UInt8.ofNat zb)
                rw [hbz] at ql
                have QL3 := Lib.hid ql
                have hst3 : StB (wi.alloc (.cells #[.int .u8 (zb : Int), .int .u64 (zo : Int), .int .i64 (t : Int)] 66)) wo.heap.size (.slice (some ⟨b2, o2, none⟩) y.arcs.length c2) false y.out := (alloc_old _ _ HI.out.2.lt).trans HI.out.2
                have HLW3 := Lib.hid (And.intro hlw hst3)
                have HLEN3 := Lib.hid hlen
                have HLA := Lib.hid (HFL.out.2.trans (by rw [hla]) : (y.arcs.take (j + 1)).flatMap (layA k) = (y.arcs.take j).flatMap (layA k) ++ ([UInt8.ofNat zb] ++ Plain.encs [zo, d]))
                have hwj : IntKind.i64.wrap ((j : Int) + 1) = ((j + 1 : Nat) : Int) := by rw [IntWalk.i64_in _ (by omega)]; omega
                have HD := Lib.hid hd
                have HZ2 := Lib.hid hz2
                clear hlw ql hst3 hlen hla hbz hd hz1 hz2 hz3
                go_wp2_with (first
                             | (go_at_call 27
                                (with_reducible refine QL3.out.mono ?_)
                                go_loud (
                                rintro e' w5 ⟨rfl, g1, g2, g3⟩
                                have h5 := HLW3.out.1.next g1 g2 g3
                                have hab : w5.heap[wi.heap.size]? = some (.cells #[.int .u8 (zb : Int), .int .u64 (zo : Int), .int .i64 (t : Int)] 66 (0, 0)) := g3 _ _ (heap_alloc_new wi _) ⟨_, _, _, rfl, .inr (.inr rfl)⟩
                                have k1 : w5.cell? ⟨wi.heap.size, 1, none⟩ = some (.int .u64 (zo : Int)) := by rw [cell_of_row w5 _ 1 _ _ _ hab]; rfl
                                have k2 : w5.cell? ⟨wi.heap.size, 2, none⟩ = some (.int .i64 (t : Int)) := by rw [cell_of_row w5 _ 2 _ _ _ hab]; rfl
                                have h5a := h5.alloc (.cells #[.int .u64 (zo : Int), .int .u64 (d : Int)] 23)
                                have hle5 : (preT n l.length ++ laySs 0 (l.take k) ++ headS y ++ (y.arcs.take j).flatMap (layA k) ++ [UInt8.ofNat zb]).length ≤ 1000000000 := by simp only [List.length_append]; have := HLEN3.out; omega
                                have hns5 : ∀ x ∈ [zo, d], x < 18446744073709551616 := by intro x hx; simp at hx; have := HZ2.out; have := HD.out; omega
                                have qn3 := wnumbers_any h5a.wr HR2.out.hp hle5 (nums2 w5 zo d) hns5 (by simp)
                                have QN3 := Lib.hid qn3
                                have hs4 := HLW3.out.2.ku g3
                                have hs5 : StB (w5.alloc (.cells #[.int .u64 (zo : Int), .int .u64 (d : Int)] 23)) wo.heap.size (.slice (some ⟨b2, o2, none⟩) y.arcs.length c2) false y.out := (alloc_old w5 _ hs4.lt).trans hs4
                                have H5 := Lib.hid (And.intro h5a hs5)
                                clear g1 g2 g3 h5 hab h5a hs4 hs5 hle5 hns5 qn3))
                             | (go_at_call 28; (with_reducible refine QN3.out.mono ?_); rintro e' w6 ⟨rfl, g1, g2, g3⟩; have H6 := Lib.hid (And.intro (H5.out.1.next g1 g2 g3) (H5.out.2.ku g3)); clear g1 g2 g3))
                refine ⟨?_, ?_⟩
                · exact ⟨j + 1, by omega, rfl, Lib.hid ⟨by have h := H6.out.1; rw [HLA.out, ← List.append_assoc, ← List.append_assoc]; exact h, H6.out.2⟩⟩
                · simp [intOf]; omega
              · have d3 : decide ((j : Int) < (y.arcs.length : Int)) = false := by simp only [decide_eq_false_iff_not]; omega
                obtain rfl : j = y.arcs.length := by omega
                have hwk : IntKind.i64.wrap ((k : Int) + 1) = ((k + 1 : Nat) : Int) := by rw [IntWalk.i64_in _ (by omega)]; omega
                go_wp2
                refine ⟨?_, ?_⟩
                · exact ⟨k + 1, by omega, rfl, Lib.hid (by have h := HI.out.1; rw [List.take_length] at h; rw [HTK.out, Nat.zero_add, ← List.append_assoc]; unfold layS; rw [← List.append_assoc]; exact h)⟩
                · simp [intOf]; omega
        · have d1 : decide ((k : Int) < (l.length : Int)) = false := by simp only [decide_eq_false_iff_not]; omega
          obtain rfl : k = l.length := by omega
          have QI := Lib.hid (wnumbers_any (ns := [init]) ((HR2.out.wr).below (below_alloc wo (.cells #[.int .u64 (init : Int)] 23))) HR2.out.hp (by
            have := HM.out.2.2
            rw [List.take_length]
            have h3 : layT n l init = preT n l.length ++ laySs 0 l ++ Plain.enc init := rfl
            rw [h3, List.length_append] at this
            omega) (nums1 wo init) (by intro x hx; simp at hx; omega) (by simp))
          have q1 := HR2.out.box.at1
          go_wp2_with (go_at_call 28; (with_reducible refine QI.out.mono ?_); rintro e' w3 ⟨rfl, g1, g2, g3⟩; have H3 := Lib.hid ((HR2.out.alloc _).next g1 g2 g3); clear g1 g2 g3)
          go_end0
          have hfin := H3.out
          rw [encs_one, List.take_length] at hfin
          exact ⟨rfl, hfin.wr, hfin.k⟩

end Go.Proofs.YtjiilmiikejnhaaDoor
namespace Go.Proofs.YtjiilmiikejnhaaDoor
open Go.RowKit Go.Shelf

/-- The sum's block. -/
def SzB (w : World) (p k : Nat) : Prop := w.heap[p]? = some (.cells #[.int .i64 (k : Int)] 3 (0, 0))
theorem SzB.at0 {w : World} {p k : Nat} (h : SzB w p k) : w.cell? ⟨p, 0, none⟩ = some (.int .i64 (k : Int)) := by rw [cell_of_row w p 0 _ _ _ h]; rfl
theorem SzB.free {w : World} {p k : Nat} (h : SzB w p k) (o : Nat) : w.frozen? ⟨p, o, none⟩ = false := by
  unfold SzB at h
  simp [World.frozen?, h]
theorem SzB.lt {w : World} {p k : Nat} (h : SzB w p k) : p < w.heap.size := (Array.getElem?_eq_some_iff.1 h).1
theorem SzB.below {w w' : World} {p k : Nat} (h : SzB w p k) (hb : Below w.heap.size w w') : SzB w' p k := (hb.block _ h.lt).trans h
theorem SzB.set {w : World} {p k : Nat} (h : SzB w p k) (m : Nat) : SzB (w.setCell ⟨p, 0, none⟩ (.int .i64 (m : Int))) p m ∧ Kp (fun g => g = p) w (w.setCell ⟨p, 0, none⟩ (.int .i64 (m : Int))) ∧ KeepU w (w.setCell ⟨p, 0, none⟩ (.int .i64 (m : Int))) := by
  have hk : Kp (fun g => g = p) w (w.setCell ⟨p, 0, none⟩ (.int .i64 (m : Int))) := Kp.grown (grown_setCell w p 0 _) (fun g e => (Option.some.inj e).symm)
  refine ⟨cells_setCell h 0 _, hk, KeepU.kp hk fun b e o ho hu => ?_⟩
  subst e
  obtain ⟨cs, t, fz, rfl, ht⟩ := hu
  unfold SzB at h
  rw [h] at ho
  injection ho with ho
  injection ho with _ ho
  rcases ht with ht | ht | ht <;> rw [ht] at ho <;> exact absurd ho (by decide)

set_option maxRecDepth 100000 in
theorem szletter_any {w : World} {p k : Nat} (h : SzB w p k) (hk : k ≤ 2000000100) (b : Int) :
    Calls Tryd.prog 32 #[.int .u8 b, .pointer (some ⟨p, 0, none⟩)] w fun e w' => e = .returned (.tuple #[]) ∧ SzB w' p (k + 1) ∧ Kp (fun g => g = p) w w' ∧ KeepU w w' := by
  have c0 := h.at0
  have f0 := h.free 0
  have hwr : IntKind.i64.wrap ((k : Int) + 1) = ((k + 1 : Nat) : Int) := by rw [IntWalk.i64_in _ (by omega)]; omega
  have HS := Lib.hid (h.set (k + 1))
  clear h
  go_enter Tryd.func32, Tryd.ntmps32
  go_wp2
  go_end0
  exact ⟨rfl, HS.out⟩

set_option maxHeartbeats 1000000 in
set_option maxRecDepth 100000 in
theorem sznumbers_any {w : World} {p k : Nat} (h : SzB w p k) (hk : k ≤ 1000000100) {v : Value} {ns : List Nat} (hn : Nums w v ns) (hns : ∀ n ∈ ns, n < 18446744073709551616) (hlen : ns.length ≤ 1000000) :
    Calls Tryd.prog 33 #[v, .pointer (some ⟨p, 0, none⟩)] w fun e w' => e = .returned (.tuple #[]) ∧ SzB w' p (k + (Plain.encs ns).length) ∧ Kp (fun g => g = p) w w' ∧ KeepU w w' := by
  obtain ⟨ad, c, rfl, hc⟩ := hn
  have HC : Hid (∀ j, j < ns.length → ∃ b o, ad = some ⟨b, o, none⟩ ∧ ∀ W, Kp (fun g => g = p) w W → W.cell? ⟨b, o + j, none⟩ = some (.int .u64 ((ns.getD j 0 : Nat) : Int))) := Lib.hid fun j hj => by
    obtain ⟨b, o, e, hcell⟩ := hc j hj
    refine ⟨b, o, e, fun W hW => (cell_same (hW.block b (block_lt_of_cell hcell) fun e' => ?_)).trans hcell⟩
    subst e'
    rw [cell_of_row w b (o + j) _ _ _ h] at hcell
    cases ho : o + j with
    | zero => rw [ho] at hcell; cases hcell
    | succ q => rw [ho] at hcell; simp at hcell
  have HLM := Lib.hid (encs_length_le ns hns)
  have HNS := Lib.hid hns
  have H0 := Lib.hid h
  clear h hc hns
  go_enter Tryd.func33, Tryd.ntmps33
  go_wp2
  go_loopw [7] (fun s7 wr => ∃ j : Nat, j ≤ ns.length ∧ s7 = .int .i64 j ∧ Hid (SzB wr p (k + (Plain.encs (ns.take j)).length) ∧ Kp (fun g => g = p) w wr ∧ KeepU w wr)) (fun s7 _ => ns.length - (intOf s7).toNat)
  case atStart => exact ⟨0, by omega, rfl, Lib.hid ⟨H0.out, Kp.refl _ _, KeepU.refl _⟩⟩
  case round =>
    obtain ⟨j, hj, rfl, HR⟩ := hrel
    by_cases hlt : j < ns.length
    · have d0 : decide ((j : Int) < (ns.length : Int)) = true := by simp only [decide_eq_true_eq]; omega
      have ix : (j : Int) < (ns.length : Int) := by omega
      obtain ⟨b, o, rfl, hcell⟩ := HC.out j hlt
      have h1 := hcell wr HR.out.2.1
      have hx : ns.getD j 0 < 18446744073709551616 := by
        have e : ns.getD j 0 = ns[j] := by simp [hlt]
        rw [e]; exact HNS.out _ (List.getElem_mem hlt)
      have hle : (Plain.encs (ns.take (j + 1))).length ≤ 9 * (j + 1) := by
        have := encs_length_le (ns.take (j + 1)) (fun n hn => HNS.out n (List.mem_of_mem_take hn))
        have e : (ns.take (j + 1)).length ≤ j + 1 := by rw [List.length_take]; omega
        omega
      have hsz : (Plain.encs (ns.take (j + 1))).length = (Plain.encs (ns.take j)).length + Plain.size (ns.getD j 0) := by rw [encs_take_succ hlt, List.length_append, Plain.enc_length]
      obtain ⟨x, hxx⟩ : ∃ x, ns.getD j 0 = x := ⟨_, rfl⟩
      rw [hxx] at h1 hx hsz
      obtain ⟨S, hS⟩ : ∃ S, k + (Plain.encs (ns.take j)).length = S := ⟨_, rfl⟩
      have hR := HR.out
      rw [hS] at hR
      have c0 := hR.1.at0
      have f0 := hR.1.free 0
      have QZ := Lib.hid ((size_any x wr.drew hx).mono fun e w' hh => (⟨hh.1, hh.2.symm⟩ : e = .returned (.int .i64 ((Plain.size x : Nat) : Int)) ∧ w' = wr.drew))
      have hsum : IntKind.i64.wrap ((S : Int) + (Plain.size x : Int)) = ((S + Plain.size x : Nat) : Int) := by rw [IntWalk.i64_in _ (by omega)]; omega
      have hwj : IntKind.i64.wrap ((j : Int) + 1) = ((j + 1 : Nat) : Int) := by rw [IntWalk.i64_in _ (by omega)]; omega
      have HN := Lib.hid (show k + (Plain.encs (ns.take (j + 1))).length = S + Plain.size x by omega)
      have HX := Lib.hid hR
      clear hcell hle hsz hS hR hxx
      go_wp2
      go_region_law (
        refine step_call_ok (f := 34) (args := #[.int .u64 (x : Int)]) rfl (by first | (go_simp; done) | (go_simp; rfl)) QZ.out ?_
        intro e' w1 hh
        obtain ⟨rfl, rfl⟩ := hh
        refine ⟨_, rfl, ?_⟩)
      all_goals go_wp2
      all_goals (
        obtain ⟨m1, m2, m3⟩ := HX.out.1.set (S + Plain.size x)
        rw [Int.natCast_add] at m1 m2 m3
        refine ⟨⟨j + 1, by omega, by go_num, Lib.hid ⟨?_, ?_, ?_⟩⟩, ?_⟩
        · rw [HN.out]; exact m1
        · exact (HX.out.2.1.trans m2 (fun g e => .inl e)).drew
        · exact HX.out.2.2.trans m3
        · simp [intOf]; omega)
    · have d0 : decide ((j : Int) < (ns.length : Int)) = false := by simp only [decide_eq_false_iff_not]; omega
      obtain rfl : j = ns.length := by omega
      go_wp2
      go_end0
      have h := HR.out
      rw [List.take_length] at h
      exact ⟨rfl, h⟩

end Go.Proofs.YtjiilmiikejnhaaDoor
namespace Go.Proofs.YtjiilmiikejnhaaDoor
open Go.RowKit Go.Shelf

/-- The sum so far: a seal's four, and these bytes. -/
def WrS (w : World) (p base : Nat) (L : List UInt8) : Prop := SzB w p (4 + L.length) ∧ base ≤ p
theorem WrS.below {w w' : World} {p base : Nat} {L : List UInt8} (h : WrS w p base L) (hb : Below w.heap.size w w') : WrS w' p base L := ⟨h.1.below hb, h.2⟩
theorem wletterS {w : World} {p base : Nat} {L : List UInt8} (h : WrS w p base L) (hp : base ≤ p) (hl : L.length ≤ 2000000000) (b : UInt8) :
    Calls Tryd.prog 32 #[.int .u8 (b.toNat : Int), .pointer (some ⟨p, 0, none⟩)] w fun e w' => e = .returned (.tuple #[]) ∧ WrS w' p base (L ++ [b]) ∧ Kp (fun g => base ≤ g) w w' ∧ KeepU w w' :=
  (szletter_any h.1 (by omega) _).mono fun e w' ⟨h1, h2, h3, h4⟩ => ⟨h1, ⟨by rw [List.length_append]; exact h2, hp⟩, h3.mono fun g e => .inl (by rw [e]; exact hp), h4⟩
theorem wnumbersS {w : World} {p base : Nat} {L : List UInt8} (h : WrS w p base L) (hp : base ≤ p) (hl : L.length ≤ 1000000000) {v : Value} {ns : List Nat} (hn : Nums w v ns) (hns : ∀ n ∈ ns, n < 18446744073709551616) (hlen : ns.length ≤ 1000000) :
    Calls Tryd.prog 33 #[v, .pointer (some ⟨p, 0, none⟩)] w fun e w' => e = .returned (.tuple #[]) ∧ WrS w' p base (L ++ Plain.encs ns) ∧ Kp (fun g => base ≤ g) w w' ∧ KeepU w w' :=
  (sznumbers_any h.1 (by omega) hn hns hlen).mono fun e w' ⟨h1, h2, h3, h4⟩ => ⟨h1, ⟨by rw [List.length_append, ← Nat.add_assoc]; exact h2, hp⟩, h3.mono fun g e => .inl (by rw [e]; exact hp), h4⟩

/-- All blocks of a laying that goes on. -/
structure LWS (w W : World) (p base A : Nat) (L : List UInt8) (v : Value) (init : Nat) : Prop where
  wr : WrS W p base L
  box : FstB W A v init
  k : Kp (fun g => base ≤ g) w W
  lo : base ≤ w.heap.size
  hp : base ≤ p
theorem LWS.next {w W W' : World} {p base A init : Nat} {L L' : List UInt8} {v : Value} (h : LWS w W p base A L v init) (hr : WrS W' p base L') (hk : Kp (fun g => base ≤ g) W W') (hu : KeepU W W') : LWS w W' p base A L' v init :=
  ⟨hr, hu _ _ h.box (uq_fst h.box), h.k.trans hk (fun g e => .inl e), h.lo, h.hp⟩
theorem LWS.alloc {w W : World} {p base A init : Nat} {L : List UInt8} {v : Value} (h : LWS w W p base A L v init) (o : Obj) : LWS w (W.alloc o) p base A L v init :=
  h.next (h.wr.below (below_alloc W o)) (Kp.below (below_alloc W o)) (KeepU.below (below_alloc W o))
theorem LWS.below {w W : World} {p base A init : Nat} {L : List UInt8} {v : Value} (h : LWS w W p base A L v init) : Below base w W := h.k.to h.lo fun g e => e
set_option maxHeartbeats 4000000 in
set_option maxRecDepth 100000 in
theorem lay_size {w w00 : World} {p base n init : Nat} {v : Value} {l : List DSt} (hW : WrS w p base []) (hp : base ≤ p) (hlo : base ≤ w.heap.size) (hS : Sts w00 v l) (h00 : w00.heap.size = base) (hb00 : Below base w00 w) (hn : n ≤ 100000) (hi : init < 18446744073709551616) (hl : l.length ≤ 100000) (hm : maySs 0 l = true) (hok : ∀ s ∈ l, s.ok) (hB : (layT n l init).length ≤ 1000000000) :
    Calls Tryd.prog 26 #[.int .i64 (n : Int), .agg #[v, .int .u64 (init : Int)], .func (.func 32) #[] #[.pointer (some ⟨p, 0, none⟩)], .func (.func 33) #[] #[.pointer (some ⟨p, 0, none⟩)]] w
      fun e w' => e = .returned (.tuple #[]) ∧ WrS w' p base (layT n l init) ∧ Kp (fun g => base ≤ g) w w' := by
  obtain ⟨ad, c, rfl, hc⟩ := hS
  have HS : Hid (∀ i, i < l.length → ∃ b o ad2 c2, ad = some ⟨b, o, none⟩ ∧ (∀ W, Below base w W → W.cell? ⟨b, o + i * 3, none⟩ = some (.slice ad2 (stAt l i).arcs.length c2) ∧ W.cell? ⟨b, o + i * 3 + 1, none⟩ = some (.bool (stAt l i).fin) ∧ W.cell? ⟨b, o + i * 3 + 2, none⟩ = some (.int .u64 ((stAt l i).out : Int))) ∧
      ∀ j, j < (stAt l i).arcs.length → ∃ b2 o2, ad2 = some ⟨b2, o2, none⟩ ∧ ∀ W, Below base w W → ArcIn W b2 (o2 + j * 3) (arcAt (stAt l i).arcs j)) := Lib.hid fun i hi => by
    subst h00
    obtain ⟨b, o, e, vx, h1, h2, h3, ad2, c2, rfl, h4⟩ := hc i hi
    refine ⟨b, o, ad2, c2, e, fun W hW => ?_, fun j hj => ?_⟩
    · have hs := (hb00.trans hW).block b (block_lt_of_cell h1)
      exact ⟨(cell_same hs).trans h1, (cell_same hs).trans h2, (cell_same hs).trans h3⟩
    · obtain ⟨b2, o2, e2, hE⟩ := h4 j hj
      exact ⟨b2, o2, e2, fun W hW => hE.later (hb00.trans hW)⟩
  have HM := Lib.hid (And.intro hm (And.intro hok hB))
  have HW := Lib.hid (And.intro hW (And.intro hp hlo))
  have en : IntKind.u64.wrap (n : Int) = (n : Int) := IntWalk.u64_in _ (by omega)
  have el : IntKind.u64.wrap (l.length : Int) = (l.length : Int) := IntWalk.u64_in _ (by omega)
  clear hc hm hok hB hW hp hlo h00 hb00
  go_enter Tryd.func26, Tryd.ntmps26
  go_upto_region 1 with fail
  have h0 : LWS w (w.alloc (.cells #[.slice ad l.length c, .int .u64 (init : Int)] 25)) p base w.heap.size [] (.slice ad l.length c) init := ⟨HW.out.1.below (below_alloc w _), heap_alloc_new w _, Kp.below (below_alloc w _), HW.out.2.2, HW.out.2.1⟩
  have hwb : ∃ w1, w1 = w.alloc (.cells #[.slice ad l.length c, .int .u64 (init : Int)] 25) := ⟨_, rfl⟩
  obtain ⟨w1, hw1⟩ := hwb
  rw [← hw1] at h0 ⊢
  have H0 := Lib.hid h0
  clear hw1 h0
  go_wp2
  go_loopw [14] (fun s14 wr => ∃ k : Nat, k ≤ 3 ∧ s14 = .int .i64 k ∧ Hid (LWS w wr p base w.heap.size (magicL.take k) (.slice ad l.length c) init)) (fun s14 _ => 3 - (intOf s14).toNat)
  case atStart => exact ⟨0, by omega, rfl, Lib.hid H0.out⟩
  case round =>
    obtain ⟨k, hk, rfl, HR⟩ := hrel
    by_cases hlt : k < 3
    · have d0 : decide ((k : Int) < 3) = true := by simp only [decide_eq_true_eq]; omega
      have h3 : k < (⟨#[67, 83, 1]⟩ : ByteArray).size := hlt
      have hnx : magicL.take (k + 1) = magicL.take k ++ [(⟨#[67, 83, 1]⟩ : ByteArray)[k]'h3] := by
        rw [magic_at h3]
        obtain rfl | rfl | rfl : k = 0 ∨ k = 1 ∨ k = 2 := by omega
        all_goals rfl
      have hix : (k : Int) < 3 := by omega
      have QL := Lib.hid (wletterS HR.out.wr HR.out.hp (by simp [magicL]; omega) ((⟨#[67, 83, 1]⟩ : ByteArray)[k]'h3))
      have HNX := Lib.hid hnx
      have hwr : IntKind.i64.wrap ((k : Int) + 1) = ((k + 1 : Nat) : Int) := by rw [IntWalk.i64_in _ (by omega)]; omega
      clear hnx
      go_wp2_with (go_at_call 32; (with_reducible refine QL.out.mono ?_); rintro e' w2 ⟨rfl, g1, g2, g3⟩; have HL := Lib.hid (HR.out.next g1 g2 g3); clear g1 g2 g3)
      refine ⟨?_, ?_⟩
      · exact ⟨k + 1, by omega, rfl, Lib.hid (HNX.out ▸ HL.out)⟩
      · simp [intOf]; omega
    · have d0 : decide ((k : Int) < 3) = false := by simp only [decide_eq_false_iff_not]; omega
      obtain rfl : k = 3 := by omega
      have q0 := HR.out.box.at0
      have QN := Lib.hid (wnumbersS (ns := [n, l.length]) ((HR.out.wr).below (below_alloc wr (.cells #[.int .u64 (n : Int), .int .u64 (l.length : Int)] 23))) HR.out.hp (by simp [magicL]) (nums2 wr n l.length) (by intro x hx; simp at hx; omega) (by simp))
      go_wp2_with (go_at_call 33; (with_reducible refine QN.out.mono ?_); rintro e' w2 ⟨rfl, g1, g2, g3⟩; have H2 := Lib.hid ((HR.out.alloc _).next g1 g2 g3); have q2 := H2.out.box.at0; clear g1 g2 g3)
      have H2' : Hid (LWS w w2 p base w.heap.size (preT n l.length ++ laySs 0 (l.take 0)) (.slice ad l.length c) init) := Lib.hid (by
        have h := H2.out
        rw [encs_two] at h
        have e : preT n l.length ++ laySs 0 (l.take 0) = List.take 3 magicL ++ (Plain.enc n ++ Plain.enc l.length) := by simp [preT, laySs, magicL]
        rw [e]
        exact h)
      go_loopw [34] (fun s34 wr => ∃ k : Nat, k ≤ l.length ∧ s34 = .int .i64 k ∧ Hid (LWS w wr p base w.heap.size (preT n l.length ++ laySs 0 (l.take k)) (.slice ad l.length c) init)) (fun s34 _ => l.length - (intOf s34).toNat)
      case atStart => exact ⟨0, by omega, rfl, Lib.hid H2'.out⟩
      case round =>
        obtain ⟨k, hk, rfl, HR2⟩ := hrel
        obtain ⟨wo, hwo⟩ : ∃ wo, wo = wr := ⟨_, rfl⟩
        subst hwo
        by_cases hlt : k < l.length
        · have d1 : decide ((k : Int) < (l.length : Int)) = true := by simp only [decide_eq_true_eq]; omega
          have ix : (k : Int) < (l.length : Int) := by omega
          obtain ⟨b, o, ad2, c2, rfl, hcells, hA⟩ := HS.out k hlt
          obtain ⟨h1, h2, h3⟩ := hcells wo HR2.out.below
          clear hcells
          have HLEN := Lib.hid (Nat.le_trans (layT_len n init k l hlt) HM.out.2.2)
          have hmay := maySs_at HM.out.1 hlt
          rw [Nat.zero_add] at hmay
          have hyk := HM.out.2.1 (stAt l k) (by rw [stAt_lt hlt]; exact List.getElem_mem hlt)
          have HTK := Lib.hid (laySs_take (o := 0) hlt)
          obtain ⟨y, hy⟩ : ∃ y, stAt l k = y := ⟨_, rfl⟩
          rw [hy] at h1 h2 h3 hA HLEN hmay hyk HTK
          clear hy
          have h256 : y.arcs.length ≤ 256 := by
            unfold mayS at hmay
            rw [Bool.and_eq_true] at hmay
            simpa using hmay.1
          have HMY := Lib.hid (And.intro hmay hyk)
          have HAR := Lib.hid hA
          have ec : IntKind.u64.wrap (y.arcs.length : Int) = (y.arcs.length : Int) := IntWalk.u64_in _ (by omega)
          have em : IntKind.u64.wrap (2 * (y.arcs.length : Int)) = ((2 * y.arcs.length : Nat) : Int) := by rw [IntWalk.u64_in _ (by omega)]; omega
          have ea : IntKind.u64.wrap (((2 * y.arcs.length : Nat) : Int) + 1) = ((2 * y.arcs.length + 1 : Nat) : Int) := by rw [IntWalk.u64_in _ (by omega)]; omega
          clear hmay hyk hA
          cases hf : y.fin with
          | true =>
            rw [hf] at h2
            have HF := Lib.hid hf
            clear hf
            have hst : StB ((wo.alloc (.cells #[.slice ad2 y.arcs.length c2, .bool true, .int .u64 (y.out : Int)] 64)).alloc (.cells #[.int .u64 (2 * (y.arcs.length : Int) + 1), .int .u64 (y.out : Int)] 23)) wo.heap.size (.slice ad2 y.arcs.length c2) true y.out := (alloc_old _ _ (by simp)).trans (heap_alloc_new wo _)
            have hLW := (HR2.out.alloc (.cells #[.slice ad2 y.arcs.length c2, .bool true, .int .u64 (y.out : Int)] 64)).alloc (.cells #[.int .u64 (2 * (y.arcs.length : Int) + 1), .int .u64 (y.out : Int)] 23)
            have QN2 := Lib.hid (wnumbersS (ns := [2 * y.arcs.length + 1, y.out]) (v := .slice (some ⟨wo.heap.size + 1, 0, none⟩) 2 2) hLW.wr HR2.out.hp (by have := HLEN.out; omega) (nums2' (by simp) (by omega) rfl) (by intro x hx; simp at hx; have := HMY.out.2.2; omega) (by simp))
            have HLW := Lib.hid (And.intro hst hLW)
            have hhd : Plain.encs [2 * y.arcs.length + 1, y.out] = headS y := by unfold headS; rw [HF.out]; simp [Plain.encs]
            have HHD := Lib.hid hhd
            clear hst hLW hhd
            go_wp2_with (go_at_call 33; (with_reducible refine QN2.out.mono ?_); rintro e' w4 ⟨rfl, g1, g2, g3⟩; have S4 := HLW.out.1.ku g3; have q4 := S4.at0; have H4 := Lib.hid (And.intro (HLW.out.2.next g1 g2 g3) S4); clear g1 g2 g3 S4)
            go_loopw [60] (fun s60 wi => ∃ j : Nat, j ≤ y.arcs.length ∧ s60 = .int .i64 j ∧ Hid (LWS w wi p base w.heap.size (preT n l.length ++ laySs 0 (l.take k) ++ headS y ++ (y.arcs.take j).flatMap (layA k)) (.slice (some ⟨b, o, none⟩) l.length c) init ∧ StB wi wo.heap.size (.slice ad2 y.arcs.length c2) true y.out)) (fun s60 _ => y.arcs.length - (intOf s60).toNat)
            case atStart => exact ⟨0, by omega, rfl, Lib.hid ⟨by rw [List.take_zero, List.flatMap_nil, List.append_nil, ← HHD.out]; exact H4.out.1, H4.out.2⟩⟩
            case round =>
              obtain ⟨j, hj, rfl, HI⟩ := hrel
              obtain ⟨wi, hwi⟩ : ∃ wi, wi = wr := ⟨_, rfl⟩
              subst hwi
              by_cases hltj : j < y.arcs.length
              · have d3 : decide ((j : Int) < (y.arcs.length : Int)) = true := by simp only [decide_eq_true_eq]; omega
                have ixj : (j : Int) < (y.arcs.length : Int) := by omega
                obtain ⟨b2, o2, rfl, hE⟩ := HAR.out j hltj
                obtain ⟨a1, a2, a3⟩ := hE wi HI.out.1.below
                have HZ := Lib.hid (arc_facts HMY.out.1 HMY.out.2 hltj)
                have HFL := Lib.hid (flat_le (layA k) hltj)
                clear hE
                obtain ⟨z, hz⟩ : ∃ z, arcAt y.arcs j = z := ⟨_, rfl⟩
                rw [hz] at a1 a2 a3 HZ HFL
                clear hz
                obtain ⟨zb, zo, zt⟩ := z
                obtain ⟨hz1, hz2, t, rfl, hz3⟩ := HZ.out
                dsimp only at a1 a2 a3 hz1 hz2 hz3
                obtain ⟨d, hd⟩ : ∃ d : Nat, (d : Int) = (k : Int) - (t : Int) := ⟨k - t, by omega⟩
                have es : IntKind.i64.wrap ((k : Int) - (t : Int)) = (d : Int) := by rw [← hd, IntWalk.i64_in _ (by omega)]
                have eu : IntKind.u64.wrap (d : Int) = (d : Int) := IntWalk.u64_in _ (by omega)
                have hla : layA k ⟨zb, zo, t⟩ = [UInt8.ofNat zb] ++ Plain.encs [zo, d] := by
                  unfold layA
                  rw [encs_two, ← hd]
                  rfl
                have hbz : (UInt8.ofNat zb).toNat = zb := by simp; omega
                have hlen : (preT n l.length ++ laySs 0 (l.take k) ++ headS y ++ (y.arcs.take j).flatMap (layA k)).length + (layA k ⟨zb, zo, t⟩).length ≤ 1000000000 := by
                  have h1 := HLEN.out
                  have h2 := HFL.out.1
                  unfold layS at h1
                  simp only [List.length_append] at h1 ⊢
                  omega
                rw [hla] at hlen
                simp only [List.length_append] at hlen
                have hlw := HI.out.1.alloc (.cells #[.int .u8 (zb : Int), .int .u64 (zo : Int), .int .i64 (t : Int)] 66)
                have ql := wletterS hlw.wr HR2.out.hp (by simp only [List.length_append]; omega) (UInt8.ofNat zb)
                rw [hbz] at ql
                have QL3 := Lib.hid ql
                have hst3 : StB (wi.alloc (.cells #[.int .u8 (zb : Int), .int .u64 (zo : Int), .int .i64 (t : Int)] 66)) wo.heap.size (.slice (some ⟨b2, o2, none⟩) y.arcs.length c2) true y.out := (alloc_old _ _ HI.out.2.lt).trans HI.out.2
                have HLW3 := Lib.hid (And.intro hlw hst3)
                have HLEN3 := Lib.hid hlen
                have HLA := Lib.hid (HFL.out.2.trans (by rw [hla]) : (y.arcs.take (j + 1)).flatMap (layA k) = (y.arcs.take j).flatMap (layA k) ++ ([UInt8.ofNat zb] ++ Plain.encs [zo, d]))
                have hwj : IntKind.i64.wrap ((j : Int) + 1) = ((j + 1 : Nat) : Int) := by rw [IntWalk.i64_in _ (by omega)]; omega
                have HD := Lib.hid hd
                have HZ2 := Lib.hid hz2
                clear hlw ql hst3 hlen hla hbz hd hz1 hz2 hz3
                go_wp2_with (first
                             | (go_at_call 32
                                (with_reducible refine QL3.out.mono ?_)
                                go_loud (
                                rintro e' w5 ⟨rfl, g1, g2, g3⟩
                                have h5 := HLW3.out.1.next g1 g2 g3
                                have hab : w5.heap[wi.heap.size]? = some (.cells #[.int .u8 (zb : Int), .int .u64 (zo : Int), .int .i64 (t : Int)] 66 (0, 0)) := g3 _ _ (heap_alloc_new wi _) ⟨_, _, _, rfl, .inr (.inr rfl)⟩
                                have k1 : w5.cell? ⟨wi.heap.size, 1, none⟩ = some (.int .u64 (zo : Int)) := by rw [cell_of_row w5 _ 1 _ _ _ hab]; rfl
                                have k2 : w5.cell? ⟨wi.heap.size, 2, none⟩ = some (.int .i64 (t : Int)) := by rw [cell_of_row w5 _ 2 _ _ _ hab]; rfl
                                have h5a := h5.alloc (.cells #[.int .u64 (zo : Int), .int .u64 (d : Int)] 23)
                                have hle5 : (preT n l.length ++ laySs 0 (l.take k) ++ headS y ++ (y.arcs.take j).flatMap (layA k) ++ [UInt8.ofNat zb]).length ≤ 1000000000 := by simp only [List.length_append]; have := HLEN3.out; omega
                                have hns5 : ∀ x ∈ [zo, d], x < 18446744073709551616 := by intro x hx; simp at hx; have := HZ2.out; have := HD.out; omega
                                have qn3 := wnumbersS h5a.wr HR2.out.hp hle5 (nums2 w5 zo d) hns5 (by simp)
                                have QN3 := Lib.hid qn3
                                have hs4 := HLW3.out.2.ku g3
                                have hs5 : StB (w5.alloc (.cells #[.int .u64 (zo : Int), .int .u64 (d : Int)] 23)) wo.heap.size (.slice (some ⟨b2, o2, none⟩) y.arcs.length c2) true y.out := (alloc_old w5 _ hs4.lt).trans hs4
                                have H5 := Lib.hid (And.intro h5a hs5)
                                clear g1 g2 g3 h5 hab h5a hs4 hs5 hle5 hns5 qn3))
                             | (go_at_call 33; (with_reducible refine QN3.out.mono ?_); rintro e' w6 ⟨rfl, g1, g2, g3⟩; have H6 := Lib.hid (And.intro (H5.out.1.next g1 g2 g3) (H5.out.2.ku g3)); clear g1 g2 g3))
                refine ⟨?_, ?_⟩
                · exact ⟨j + 1, by omega, rfl, Lib.hid ⟨by have h := H6.out.1; rw [HLA.out, ← List.append_assoc, ← List.append_assoc]; exact h, H6.out.2⟩⟩
                · simp [intOf]; omega
              · have d3 : decide ((j : Int) < (y.arcs.length : Int)) = false := by simp only [decide_eq_false_iff_not]; omega
                obtain rfl : j = y.arcs.length := by omega
                have hwk : IntKind.i64.wrap ((k : Int) + 1) = ((k + 1 : Nat) : Int) := by rw [IntWalk.i64_in _ (by omega)]; omega
                go_wp2
                refine ⟨?_, ?_⟩
                · exact ⟨k + 1, by omega, rfl, Lib.hid (by have h := HI.out.1; rw [List.take_length] at h; rw [HTK.out, Nat.zero_add, ← List.append_assoc]; unfold layS; rw [← List.append_assoc]; exact h)⟩
                · simp [intOf]; omega
          | false =>
            rw [hf] at h2
            have HF := Lib.hid hf
            clear hf
            have hst : StB ((wo.alloc (.cells #[.slice ad2 y.arcs.length c2, .bool false, .int .u64 (y.out : Int)] 64)).alloc (.cells #[.int .u64 (2 * (y.arcs.length : Int))] 23)) wo.heap.size (.slice ad2 y.arcs.length c2) false y.out := (alloc_old _ _ (by simp)).trans (heap_alloc_new wo _)
            have hLW := (HR2.out.alloc (.cells #[.slice ad2 y.arcs.length c2, .bool false, .int .u64 (y.out : Int)] 64)).alloc (.cells #[.int .u64 (2 * (y.arcs.length : Int))] 23)
            have QN2 := Lib.hid (wnumbersS (ns := [2 * y.arcs.length]) (v := .slice (some ⟨wo.heap.size + 1, 0, none⟩) 1 1) hLW.wr HR2.out.hp (by have := HLEN.out; omega) (nums1' (by simp) (by omega)) (by intro x hx; simp at hx; have := HMY.out.2.2; omega) (by simp))
            have HLW := Lib.hid (And.intro hst hLW)
            have hhd : Plain.encs [2 * y.arcs.length] = headS y := by unfold headS; rw [HF.out]; simp [Plain.encs]
            have HHD := Lib.hid hhd
            clear hst hLW hhd
            go_wp2_with (go_at_call 33; (with_reducible refine QN2.out.mono ?_); rintro e' w4 ⟨rfl, g1, g2, g3⟩; have S4 := HLW.out.1.ku g3; have q4 := S4.at0; have H4 := Lib.hid (And.intro (HLW.out.2.next g1 g2 g3) S4); clear g1 g2 g3 S4)
            go_loopw [60] (fun s60 wi => ∃ j : Nat, j ≤ y.arcs.length ∧ s60 = .int .i64 j ∧ Hid (LWS w wi p base w.heap.size (preT n l.length ++ laySs 0 (l.take k) ++ headS y ++ (y.arcs.take j).flatMap (layA k)) (.slice (some ⟨b, o, none⟩) l.length c) init ∧ StB wi wo.heap.size (.slice ad2 y.arcs.length c2) false y.out)) (fun s60 _ => y.arcs.length - (intOf s60).toNat)
            case atStart => exact ⟨0, by omega, rfl, Lib.hid ⟨by rw [List.take_zero, List.flatMap_nil, List.append_nil, ← HHD.out]; exact H4.out.1, H4.out.2⟩⟩
            case round =>
              obtain ⟨j, hj, rfl, HI⟩ := hrel
              obtain ⟨wi, hwi⟩ : ∃ wi, wi = wr := ⟨_, rfl⟩
              subst hwi
              by_cases hltj : j < y.arcs.length
              · have d3 : decide ((j : Int) < (y.arcs.length : Int)) = true := by simp only [decide_eq_true_eq]; omega
                have ixj : (j : Int) < (y.arcs.length : Int) := by omega
                obtain ⟨b2, o2, rfl, hE⟩ := HAR.out j hltj
                obtain ⟨a1, a2, a3⟩ := hE wi HI.out.1.below
                have HZ := Lib.hid (arc_facts HMY.out.1 HMY.out.2 hltj)
                have HFL := Lib.hid (flat_le (layA k) hltj)
                clear hE
                obtain ⟨z, hz⟩ : ∃ z, arcAt y.arcs j = z := ⟨_, rfl⟩
                rw [hz] at a1 a2 a3 HZ HFL
                clear hz
                obtain ⟨zb, zo, zt⟩ := z
                obtain ⟨hz1, hz2, t, rfl, hz3⟩ := HZ.out
                dsimp only at a1 a2 a3 hz1 hz2 hz3
                obtain ⟨d, hd⟩ : ∃ d : Nat, (d : Int) = (k : Int) - (t : Int) := ⟨k - t, by omega⟩
                have es : IntKind.i64.wrap ((k : Int) - (t : Int)) = (d : Int) := by rw [← hd, IntWalk.i64_in _ (by omega)]
                have eu : IntKind.u64.wrap (d : Int) = (d : Int) := IntWalk.u64_in _ (by omega)
                have hla : layA k ⟨zb, zo, t⟩ = [UInt8.ofNat zb] ++ Plain.encs [zo, d] := by
                  unfold layA
                  rw [encs_two, ← hd]
                  rfl
                have hbz : (UInt8.ofNat zb).toNat = zb := by simp; omega
                have hlen : (preT n l.length ++ laySs 0 (l.take k) ++ headS y ++ (y.arcs.take j).flatMap (layA k)).length + (layA k ⟨zb, zo, t⟩).length ≤ 1000000000 := by
                  have h1 := HLEN.out
                  have h2 := HFL.out.1
                  unfold layS at h1
                  simp only [List.length_append] at h1 ⊢
                  omega
                rw [hla] at hlen
                simp only [List.length_append] at hlen
                have hlw := HI.out.1.alloc (.cells #[.int .u8 (zb : Int), .int .u64 (zo : Int), .int .i64 (t : Int)] 66)
                have ql := wletterS hlw.wr HR2.out.hp (by simp only [List.length_append]; omega) (UInt8.ofNat zb)
                rw [hbz] at ql
                have QL3 := Lib.hid ql
                have hst3 : StB (wi.alloc (.cells #[.int .u8 (zb : Int), .int .u64 (zo : Int), .int .i64 (t : Int)] 66)) wo.heap.size (.slice (some ⟨b2, o2, none⟩) y.arcs.length c2) false y.out := (alloc_old _ _ HI.out.2.lt).trans HI.out.2
                have HLW3 := Lib.hid (And.intro hlw hst3)
                have HLEN3 := Lib.hid hlen
                have HLA := Lib.hid (HFL.out.2.trans (by rw [hla]) : (y.arcs.take (j + 1)).flatMap (layA k) = (y.arcs.take j).flatMap (layA k) ++ ([UInt8.ofNat zb] ++ Plain.encs [zo, d]))
                have hwj : IntKind.i64.wrap ((j : Int) + 1) = ((j + 1 : Nat) : Int) := by rw [IntWalk.i64_in _ (by omega)]; omega
                have HD := Lib.hid hd
                have HZ2 := Lib.hid hz2
                clear hlw ql hst3 hlen hla hbz hd hz1 hz2 hz3
                go_wp2_with (first
                             | (go_at_call 32
                                (with_reducible refine QL3.out.mono ?_)
                                go_loud (
                                rintro e' w5 ⟨rfl, g1, g2, g3⟩
                                have h5 := HLW3.out.1.next g1 g2 g3
                                have hab : w5.heap[wi.heap.size]? = some (.cells #[.int .u8 (zb : Int), .int .u64 (zo : Int), .int .i64 (t : Int)] 66 (0, 0)) := g3 _ _ (heap_alloc_new wi _) ⟨_, _, _, rfl, .inr (.inr rfl)⟩
                                have k1 : w5.cell? ⟨wi.heap.size, 1, none⟩ = some (.int .u64 (zo : Int)) := by rw [cell_of_row w5 _ 1 _ _ _ hab]; rfl
                                have k2 : w5.cell? ⟨wi.heap.size, 2, none⟩ = some (.int .i64 (t : Int)) := by rw [cell_of_row w5 _ 2 _ _ _ hab]; rfl
                                have h5a := h5.alloc (.cells #[.int .u64 (zo : Int), .int .u64 (d : Int)] 23)
                                have hle5 : (preT n l.length ++ laySs 0 (l.take k) ++ headS y ++ (y.arcs.take j).flatMap (layA k) ++ [UInt8.ofNat zb]).length ≤ 1000000000 := by simp only [List.length_append]; have := HLEN3.out; omega
                                have hns5 : ∀ x ∈ [zo, d], x < 18446744073709551616 := by intro x hx; simp at hx; have := HZ2.out; have := HD.out; omega
                                have qn3 := wnumbersS h5a.wr HR2.out.hp hle5 (nums2 w5 zo d) hns5 (by simp)
                                have QN3 := Lib.hid qn3
                                have hs4 := HLW3.out.2.ku g3
                                have hs5 : StB (w5.alloc (.cells #[.int .u64 (zo : Int), .int .u64 (d : Int)] 23)) wo.heap.size (.slice (some ⟨b2, o2, none⟩) y.arcs.length c2) false y.out := (alloc_old w5 _ hs4.lt).trans hs4
                                have H5 := Lib.hid (And.intro h5a hs5)
                                clear g1 g2 g3 h5 hab h5a hs4 hs5 hle5 hns5 qn3))
                             | (go_at_call 33; (with_reducible refine QN3.out.mono ?_); rintro e' w6 ⟨rfl, g1, g2, g3⟩; have H6 := Lib.hid (And.intro (H5.out.1.next g1 g2 g3) (H5.out.2.ku g3)); clear g1 g2 g3))
                refine ⟨?_, ?_⟩
                · exact ⟨j + 1, by omega, rfl, Lib.hid ⟨by have h := H6.out.1; rw [HLA.out, ← List.append_assoc, ← List.append_assoc]; exact h, H6.out.2⟩⟩
                · simp [intOf]; omega
              · have d3 : decide ((j : Int) < (y.arcs.length : Int)) = false := by simp only [decide_eq_false_iff_not]; omega
                obtain rfl : j = y.arcs.length := by omega
                have hwk : IntKind.i64.wrap ((k : Int) + 1) = ((k + 1 : Nat) : Int) := by rw [IntWalk.i64_in _ (by omega)]; omega
                go_wp2
                refine ⟨?_, ?_⟩
                · exact ⟨k + 1, by omega, rfl, Lib.hid (by have h := HI.out.1; rw [List.take_length] at h; rw [HTK.out, Nat.zero_add, ← List.append_assoc]; unfold layS; rw [← List.append_assoc]; exact h)⟩
                · simp [intOf]; omega
        · have d1 : decide ((k : Int) < (l.length : Int)) = false := by simp only [decide_eq_false_iff_not]; omega
          obtain rfl : k = l.length := by omega
          have QI := Lib.hid (wnumbersS (ns := [init]) ((HR2.out.wr).below (below_alloc wo (.cells #[.int .u64 (init : Int)] 23))) HR2.out.hp (by
            have := HM.out.2.2
            rw [List.take_length]
            have h3 : layT n l init = preT n l.length ++ laySs 0 l ++ Plain.enc init := rfl
            rw [h3, List.length_append] at this
            omega) (nums1 wo init) (by intro x hx; simp at hx; omega) (by simp))
          have q1 := HR2.out.box.at1
          go_wp2_with (go_at_call 33; (with_reducible refine QI.out.mono ?_); rintro e' w3 ⟨rfl, g1, g2, g3⟩; have H3 := Lib.hid ((HR2.out.alloc _).next g1 g2 g3); clear g1 g2 g3)
          go_end0
          have hfin := H3.out
          rw [encs_one, List.take_length] at hfin
          exact ⟨rfl, hfin.wr, hfin.k⟩

end Go.Proofs.YtjiilmiikejnhaaDoor

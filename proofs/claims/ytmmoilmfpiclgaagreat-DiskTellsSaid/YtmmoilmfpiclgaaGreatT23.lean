/-
  The document's lists: a list without a name, a list with one at its place. The document's folder: what was there behind 0, 1, .. acts, and the greatest number. The document's folder: a new one, what is pending, a name's number, the names. The document's folder: one more of what was there. The document's folder, told as the program's is: what it does. The document's folder: a renaming, a creation, what survives. The document's folder: a creation, what survives. The document's folder: what survives.
-/
import Derived.Test.YtmmoilmfpiclgaaGreatT22
import Derived.Deep.CutBlock
import Derived.Deep.Slices
import Derived.Deep.Strs
import Derived.Deep.Fields
import Derived.Lib.SmallJoins
set_option linter.unusedVariables false
set_option linter.unusedSimpArgs false
namespace Go.Proofs.YtmmoilmfpiclgaaGreat.Fld
open Go.RowKit Go.Shelf
attribute [local instance] alone

theorem without_snoc (l : Names) (k : Nat) (h : k < l.length) (s : List UInt8) : withoutT (l.take (k + 1)) s = if (nam l k).1 = s then withoutT (l.take k) s else withoutT (l.take k) s ++ [nam l k] := by
  rw [List.take_succ_eq_append_getElem h, nam_lt h]
  unfold withoutT
  rw [List.filter_append]
  by_cases hs : l[k].1 = s
  · rw [if_pos hs]; simp [hs]
  · rw [if_neg hs]; simp [hs]

set_option maxHeartbeats 1000000 in
set_option maxRecDepth 100000 in
theorem refWithout_any (l : Names) (v : Value) (s : ByteArray) (w : World) (hv : Nams w v l) (hlen : l.length ≤ 900000) :
    Calls Tryz.prog 139 #[v, .string s] w fun e w' => ∃ v', e = .returned v' ∧ w'.ownsRow w.heap.size 135 2 v' (withoutT l s.data.toList).length (nams (withoutT l s.data.toList)) ∧ Below w.heap.size w w' := by
  obtain ⟨ad, cp, rfl, hc⟩ := nams_cell hv
  have HC : Hid (∀ i, i < l.length → ∃ b o, ad = some ⟨b, o, none⟩ ∧ NamAt w b (o + i * 2) (nam l i)) := Lib.hid hc
  clear hc hv
  go_enter Tryz.func139, Tryz.ntmps139
  go_wp2
  go_loopw [5, 6] (fun s5 s6 wr => ∃ k : Nat, k ≤ l.length ∧ s6 = .int .i64 k ∧ wr.ownsRow w.heap.size 135 2 s5 (withoutT (l.take k) s.data.toList).length (nams (withoutT (l.take k) s.data.toList)) ∧ Below w.heap.size w wr) (fun _ s6 _ => l.length - (intOf s6).toNat)
  case atStart => exact ⟨0, Nat.zero_le _, rfl, ownsN_nil w _, Below.refl _ _⟩
  case round =>
    obtain ⟨k, hk, rfl, hown, hb⟩ := hrel
    by_cases hlt : k < l.length
    · obtain ⟨b, o, rfl, hE⟩ := HC.out k hlt
      obtain ⟨h1, h2⟩ := hE.below hb
      have hsn := without_snoc l k hlt s.data.toList
      have hle := Nat.le_trans (without_length (l.take k) s.data.toList) (List.length_take_le _ _)
      obtain ⟨y, hy⟩ : ∃ y, nam l k = y := ⟨_, rfl⟩
      rw [hy] at h1 h2 hsn
      obtain ⟨O, hO⟩ : ∃ O, withoutT (l.take k) s.data.toList = O := ⟨_, rfl⟩
      rw [hO] at hsn hown hle
      have e1 : decide ((k : Int) < (l.length : Int)) = true := decide_eq_true (by omega)
      have hyk : (strO y.1).toList = y.1 := by rw [Lib.toList_data, strO_data]
      have hsk : s.toList = s.data.toList := Lib.toList_data s
      have hne : b ≠ wr.heap.size := Nat.ne_of_lt (block_lt_of_cell h1)
      clear hy hO hE
      by_cases hq : y.1 = s.data.toList
      · rw [if_pos hq] at hsn
        have hqb : (y.1 == s.data.toList) = true := beq_iff_eq.2 hq
        have HS := Lib.hid hsn
        clear hsn hq
        go_wp2_with fail
        exact ⟨⟨k + 1, by omega, by go_num, by rw [HS.out]; exact hown, hb⟩, by simp [intOf]; omega⟩
      · rw [if_neg hq] at hsn
        have hqb : (y.1 == s.data.toList) = false := by simp [hq]
        have HS := Lib.hid hsn
        have HO1 := Lib.hid (hown.alloc (.cells #[.string (strO y.1), .int .i64 (y.2 : Int)] 135))
        have HO2 := Lib.hid (nams_single (w := wr) (x := y))
        clear hsn hq
        go_wp2_with (at_builtin; refine wpList_append_nams rfl _ _ rfl rfl w.heap.size _ _ O [y] rfl rfl HO1.out HO2.out (by simp; omega) (by have := hb.size; simp; omega) ?_; intro v' w' o1 g1)
        exact ⟨⟨k + 1, by omega, by go_num, by rw [HS.out]; exact o1, (below_alloc' hb).grown g1 (by have := hb.size; simp; omega) (fun j hj => (hown.lt j hj).1)⟩, by simp [intOf]; omega⟩
    · obtain rfl : k = l.length := by omega
      rw [List.take_length] at hown
      have e1 : decide ((l.length : Int) < (l.length : Int)) = false := by simp
      go_wp2_with fail
      go_ret
      exact ⟨_, rfl, hown, hb⟩

/-- How many names stand ahead of a text. -/
def placeN (l : Names) (k : List UInt8) : Nat := (lesserT l k).length
theorem lesser_take {l : Names} (h : Rising l) (k : List UInt8) : ∀ i, i < l.length → ((nam l i).1 < k ↔ i < placeN l k) := by
  induction l with
  | nil => intro i hi; simp at hi
  | cons p r ih =>
    obtain ⟨h1, h2⟩ := List.pairwise_cons.1 h
    intro i hi
    unfold placeN lesserT
    by_cases hp : p.1 < k
    · rw [List.filter_cons_of_pos (by simpa using hp), List.length_cons]
      cases i with
      | zero => exact ⟨fun _ => by omega, fun _ => hp⟩
      | succ i =>
        have := ih h2 i (by simpa using hi)
        show (nam r i).1 < k ↔ _
        rw [this]
        unfold placeN lesserT
        omega
    · have hz : lesserT (p :: r) k = [] := filter_all_false fun x hx => decide_eq_false fun hx' => by
        rcases List.mem_cons.1 hx with rfl | hx
        · exact hp hx'
        · exact hp (lt_trans' (h1 x hx) hx')
      unfold lesserT at hz
      rw [hz]
      refine ⟨fun hx => ?_, fun hx => by simp at hx⟩
      exfalso
      cases i with
      | zero => exact hp hx
      | succ i =>
        have hi' : i < r.length := by simpa using hi
        have hx' : (nam r i).1 < k := hx
        exact hp (lt_trans' (h1 _ (nam_mem hi')) hx')
theorem lesser_is {l : Names} (h : Rising l) (k : List UInt8) : lesserT l k = l.take (placeN l k) := by
  induction l with
  | nil => rfl
  | cons p r ih =>
    obtain ⟨h1, h2⟩ := List.pairwise_cons.1 h
    by_cases hp : p.1 < k
    · unfold placeN
      rw [show lesserT (p :: r) k = p :: lesserT r k from List.filter_cons_of_pos (by simpa using hp)]
      have := ih h2
      unfold placeN at this
      rw [List.length_cons, List.take_succ_cons, ← this]
    · unfold placeN
      rw [show lesserT (p :: r) k = [] from filter_all_false fun x hx => decide_eq_false fun hx' => by
        rcases List.mem_cons.1 hx with rfl | hx
        · exact hp hx'
        · exact hp (lt_trans' (h1 x hx) hx')]
      rfl
theorem greater_snoc (l : Names) (k : Nat) (h : k < l.length) (s : List UInt8) : greaterT (l.take (k + 1)) s = if s < (nam l k).1 then greaterT (l.take k) s ++ [nam l k] else greaterT (l.take k) s := by
  rw [List.take_succ_eq_append_getElem h, nam_lt h]
  unfold greaterT
  rw [List.filter_append]
  by_cases hs : s < l[k].1
  · rw [if_pos hs]; simp [hs]
  · rw [if_neg hs]; simp [hs]
theorem greater_length (l : Names) (k : List UInt8) : (greaterT l k).length ≤ l.length := List.length_filter_le ..

set_option maxHeartbeats 1000000 in
set_option maxRecDepth 100000 in
theorem refWith_any (l : Names) (hl : Rising l) (v : Value) (x : List UInt8 × Nat) (w : World) (hv : Nams w v l) (hlen : l.length ≤ 400000) :
    Calls Tryz.prog 100 #[v, .agg #[.string (strO x.1), .int .i64 (x.2 : Int)]] w fun e w' => ∃ v', e = .returned v' ∧ w'.ownsRow w.heap.size 135 2 v' (withT l x.1 x.2).length (nams (withT l x.1 x.2)) ∧ Below w.heap.size w w' := by
  obtain ⟨ad, cp, rfl, hc⟩ := nams_cell hv
  have HC : Hid (∀ i, i < l.length → ∃ b o, ad = some ⟨b, o, none⟩ ∧ NamAt w b (o + i * 2) (nam l i)) := Lib.hid hc
  obtain ⟨W0, hW0⟩ : ∃ W0, w.alloc (.cells #[.string (strO x.1), .int .i64 (x.2 : Int)] 135) = W0 := ⟨_, rfl⟩
  have HB0 : Hid (Below w.heap.size w W0) := Lib.hid (by rw [← hW0]; exact below_alloc' (Below.refl _ w))
  have hz0 : W0.heap.size = w.heap.size + 1 := by rw [← hW0]; simp
  have HX : Hid (∀ W, Below W0.heap.size W0 W → W.cell? ⟨w.heap.size, 0, none⟩ = some (.string (strO x.1)) ∧ W.cell? ⟨w.heap.size, 1, none⟩ = some (.int .i64 (x.2 : Int))) := Lib.hid fun W hW => by
    have h0 : NamAt W0 w.heap.size 0 x := by
      have := nams_single (w := w) (x := x)
      rw [hW0] at this
      obtain ⟨ad', c', hv', hx'⟩ := this
      obtain ⟨b, o, ha, hn⟩ := hx' 0 (by simp)
      cases hv'
      cases ha
      exact hn
    have := h0.below hW
    exact this
  obtain ⟨pl, hpl⟩ : ∃ pl, placeN l x.1 = pl := ⟨_, rfl⟩
  have hple : pl ≤ l.length := by rw [← hpl]; exact List.length_filter_le ..
  have HPL : Hid (∀ i, i < l.length → ((nam l i).1 < x.1 ↔ i < pl)) := Lib.hid (by rw [← hpl]; exact lesser_take hl x.1)
  clear hc hv
  go_enter Tryz.func100, Tryz.ntmps100
  go_upto_block 0 with fail
  try rw [hW0]
  clear hW0
  go_cut [5] from 6 to 30 (fun s5 wx => wx.ownsRow W0.heap.size 135 2 s5 (l.take pl).length (nams (l.take pl)) ∧ Below W0.heap.size W0 wx)
  case first =>
    go_wp2_with fail
    go_loopw [5, 6] (fun s5 s6 wr => ∃ k : Nat, k ≤ pl ∧ s6 = .int .i64 k ∧ wr.ownsRow W0.heap.size 135 2 s5 (l.take k).length (nams (l.take k)) ∧ Below W0.heap.size W0 wr) (fun _ s6 _ => l.length - (intOf s6).toNat)
    case atStart => exact ⟨0, Nat.zero_le _, rfl, ownsN_nil W0 _, Below.refl _ _⟩
    case round =>
      obtain ⟨k, hk, rfl, hown, hb⟩ := hrel
      have HOW := Lib.hid hown
      have HB := Lib.hid hb
      obtain ⟨x0, x1⟩ := HX.out _ hb
      clear hown hb
      by_cases hlt : k < l.length
      · have e1 : decide ((k : Int) < (l.length : Int)) = true := decide_eq_true (by omega)
        have e1' : decide (k < l.length) = true := decide_eq_true hlt
        obtain ⟨b, o, rfl, hE⟩ := HC.out k hlt
        obtain ⟨h1, h2⟩ := hE.below (Below.next HB0.out HB.out)
        have hpk := HPL.out k hlt
        have hsn : l.take (k + 1) = l.take k ++ [nam l k] := by rw [List.take_succ_eq_append_getElem hlt, nam_lt hlt]
        obtain ⟨y, hy⟩ : ∃ y, nam l k = y := ⟨_, rfl⟩
        rw [hy] at h1 h2 hpk hsn
        have gx := fun d os => cell_regrown x0 d os
        have gc1 := fun d os => cell_regrown h1 d os
        have HE := Lib.hid hE
        clear hE hy
        by_cases hkp : k < pl
        · have hls : Op.bytesLess y.1 x.1 = true := by
            rw [bytesLess_eq]
            exact decide_eq_true (hpk.2 hkp)
          have HS := Lib.hid hsn
          clear hpk hsn
          go_upto_region 3 with fail
          refine wp_region_quiet_below (by kernel_rfl) (by kernel_rfl) ?_
          repeat (go_big_quiet_step (fail))
          refine wpQuiet_nil ?_
          intro _ hw'
          obtain ⟨⟨dq, osq⟩, hw''⟩ := hw'
          subst hw''
          have HB7 := Lib.hid (below_regrown wr dq osq)
          generalize Sort.grow (redrawn wr dq) osq = w7 at HB7 ⊢
          have HOW7 := Lib.hid (owns_same HOW.out fun g hg => HB7.out.block g (HOW.out.lt g hg).2)
          have hb7 := Below.next HB.out HB7.out
          have HO1 := Lib.hid (HOW7.out.alloc (.cells #[.string (strO y.1), .int .i64 (y.2 : Int)] 135))
          have HO2 := Lib.hid (nams_single (w := w7) (x := y))
          have k1 : w7.cell? ⟨b, o + k * 2, none⟩ = some (.string (strO y.1)) := by rw [HB7.out.cell (p := ⟨b, o + k * 2, none⟩) (block_lt_of_cell h1)]; exact h1
          have k2 : w7.cell? ⟨b, o + k * 2 + 1, none⟩ = some (.int .i64 (y.2 : Int)) := by rw [HB7.out.cell (p := ⟨b, o + k * 2 + 1, none⟩) (block_lt_of_cell h2)]; exact h2
          have hne : b ≠ w7.heap.size := by have := block_lt_of_cell k1; exact Nat.ne_of_lt this
          have htl : (l.take k).length ≤ k := List.length_take_le _ _
          clear gx gc1 h1 h2 x0 x1
          go_wp2_with (at_builtin; refine wpList_append_nams rfl _ _ rfl rfl W0.heap.size _ _ (l.take k) [y] rfl rfl HO1.out HO2.out (by simp; omega) (by have := hb7.size; simp; omega) ?_; intro v' w' o1 g1)
          exact ⟨⟨k + 1, by omega, by go_num, by rw [HS.out]; exact o1, (below_alloc' hb7).grown g1 (by have := hb7.size; simp; omega) (fun j hj => (HOW7.out.lt j hj).1)⟩, by simp [intOf]; omega⟩
        · have hls : Op.bytesLess y.1 x.1 = false := by
            rw [bytesLess_eq]
            exact decide_eq_false fun h => hkp (hpk.1 h)
          obtain rfl : k = pl := by omega
          clear hpk hsn
          go_upto_region 3 with fail
          refine wp_region_quiet_below (by kernel_rfl) (by kernel_rfl) ?_
          repeat (go_big_quiet_step (fail))
          refine wpQuiet_nil ?_
          intro _ hw'
          obtain ⟨⟨dq, osq⟩, hw''⟩ := hw'
          subst hw''
          have HB7 := Lib.hid (below_regrown wr dq osq)
          generalize Sort.grow (redrawn wr dq) osq = w7 at HB7 ⊢
          have HOW7 := Lib.hid (owns_same HOW.out fun g hg => HB7.out.block g (HOW.out.lt g hg).2)
          clear gx gc1 h1 h2 x0 x1
          go_wp2_with fail
          go_meet
          exact ⟨HOW7.out, Below.next HB.out HB7.out⟩
      · have e1 : decide ((k : Int) < (l.length : Int)) = false := decide_eq_false (by omega)
        have e1' : decide (k < l.length) = false := decide_eq_false hlt
        obtain rfl : k = pl := by omega
        go_upto_region 3 with fail
        refine wp_region_quiet_below (by kernel_rfl) (by kernel_rfl) ?_
        repeat (go_big_quiet_step (fail))
        refine wpQuiet_nil ?_
        intro _ hw'
        obtain ⟨⟨dq, osq⟩, hw''⟩ := hw'
        subst hw''
        have HB7 := Lib.hid (below_regrown wr dq osq)
        generalize Sort.grow (redrawn wr dq) osq = w7 at HB7 ⊢
        have HOW7 := Lib.hid (owns_same HOW.out fun g hg => HB7.out.block g (HOW.out.lt g hg).2)
        clear x0 x1
        go_wp2_with fail
        go_meet
        exact ⟨HOW7.out, Below.next HB.out HB7.out⟩
  case rest =>
  have HOW := Lib.hid hcut.1
  have HB := Lib.hid hcut.2
  clear hcut
  obtain ⟨x0, x1⟩ := HX.out _ HB.out
  have HO1 := Lib.hid (HOW.out.alloc (.cells #[.string (strO x.1), .int .i64 (x.2 : Int)] 135))
  have HO2 := Lib.hid (nams_single (w := wc) (x := x))
  have htl : (l.take pl).length ≤ l.length := by rw [List.length_take]; omega
  have hzc := HB.out.size
  go_upto_block 2 with (at_builtin; refine wpList_append_nams rfl _ _ rfl rfl W0.heap.size _ _ (l.take pl) [x] rfl rfl HO1.out HO2.out (by simp; omega) (by simp; omega) ?_; intro v8 w8 o8 g8; have HO8 := Lib.hid o8; have HG8 := Lib.hid g8; clear o8 g8)
  have HB8 : Hid (Below W0.heap.size W0 w8) := Lib.hid ((below_alloc' HB.out).grown HG8.out (by simp; omega) (fun j hj => (HO1.out.lt j hj).1))
  obtain ⟨A, hA⟩ : ∃ A, l.take pl ++ [x] = A := ⟨_, rfl⟩
  have hAl : A.length ≤ l.length + 1 := by rw [← hA]; simp; omega
  rw [hA] at HO8
  clear HO1 HO2 HG8 HOW HB x0 x1
  go_wp2_with fail
  go_loopw [5, 7] (fun s5 s7 wr => ∃ k : Nat, k ≤ l.length ∧ s7 = .int .i64 k ∧ wr.ownsRow W0.heap.size 135 2 s5 (A ++ greaterT (l.take k) x.1).length (nams (A ++ greaterT (l.take k) x.1)) ∧ Below W0.heap.size W0 wr) (fun _ s7 _ => l.length - (intOf s7).toNat)
  case atStart => exact ⟨0, Nat.zero_le _, rfl, by simpa [greaterT] using HO8.out, HB8.out⟩
  case round =>
    obtain ⟨k, hk, rfl, hown, hb⟩ := hrel
    have HOW := Lib.hid hown
    have HB := Lib.hid hb
    obtain ⟨x0, x1⟩ := HX.out _ hb
    clear hown hb HO8 HB8
    by_cases hlt : k < l.length
    · have e1 : decide ((k : Int) < (l.length : Int)) = true := decide_eq_true (by omega)
      have e1' : decide (k < l.length) = true := decide_eq_true hlt
      obtain ⟨b, o, rfl, hE⟩ := HC.out k hlt
      obtain ⟨h1, h2⟩ := hE.below (Below.next HB0.out HB.out)
      have hsn := greater_snoc l k hlt x.1
      have hgl := Nat.le_trans (greater_length (l.take k) x.1) (List.length_take_le _ _)
      obtain ⟨y, hy⟩ : ∃ y, nam l k = y := ⟨_, rfl⟩
      rw [hy] at h1 h2 hsn
      obtain ⟨G, hG⟩ : ∃ G, greaterT (l.take k) x.1 = G := ⟨_, rfl⟩
      rw [hG] at hsn hgl HOW
      clear hE hy hG
      by_cases hq : x.1 < y.1
      · rw [if_pos hq] at hsn
        have HS := Lib.hid hsn
        have hls : Op.bytesLess y.1 x.1 = false := by rw [bytesLess_eq]; exact decide_eq_false fun h => lt_irrefl' _ (lt_trans' hq h)
        have hls2 : (y.1 == x.1) = false := by
          rw [beq_eq_false_iff_ne]
          intro e
          rw [e] at hq
          exact lt_irrefl' _ hq
        have gx := fun d os => cell_regrown x0 d os
        have gc1 := fun d os => cell_regrown h1 d os
        clear hsn hq
        go_upto_region 10 with fail
        refine wp_region_quiet_below (by kernel_rfl) (by kernel_rfl) ?_
        repeat (go_big_quiet_step (fail))
        refine wpQuiet_nil ?_
        intro _ hw'
        obtain ⟨⟨dq, osq⟩, hw''⟩ := hw'
        subst hw''
        have HB7 := Lib.hid (below_regrown wr dq osq)
        generalize Sort.grow (redrawn wr dq) osq = w7 at HB7 ⊢
        have HOW7 := Lib.hid (owns_same HOW.out fun g hg => HB7.out.block g (HOW.out.lt g hg).2)
        have hb7 := Below.next HB.out HB7.out
        have HO1 := Lib.hid (HOW7.out.alloc (.cells #[.string (strO y.1), .int .i64 (y.2 : Int)] 135))
        have HO2 := Lib.hid (nams_single (w := w7) (x := y))
        have k1 : w7.cell? ⟨b, o + k * 2, none⟩ = some (.string (strO y.1)) := by rw [HB7.out.cell (p := ⟨b, o + k * 2, none⟩) (block_lt_of_cell h1)]; exact h1
        have k2 : w7.cell? ⟨b, o + k * 2 + 1, none⟩ = some (.int .i64 (y.2 : Int)) := by rw [HB7.out.cell (p := ⟨b, o + k * 2 + 1, none⟩) (block_lt_of_cell h2)]; exact h2
        have hne : b ≠ w7.heap.size := by have := block_lt_of_cell k1; exact Nat.ne_of_lt this
        clear gx gc1 h1 h2 x0 x1
        go_wp2_with (at_builtin; refine wpList_append_nams rfl _ _ rfl rfl W0.heap.size _ _ (A ++ G) [y] rfl rfl HO1.out HO2.out (by simp; omega) (by have := hb7.size; simp; omega) ?_; intro v' w' o1 g1)
        exact ⟨⟨k + 1, by omega, by go_num, by rw [HS.out, ← List.append_assoc]; exact o1, (below_alloc' hb7).grown g1 (by have := hb7.size; simp; omega) (fun j hj => (HOW7.out.lt j hj).1)⟩, by simp [intOf]; omega⟩
      · rw [if_neg hq] at hsn
        have HS := Lib.hid hsn
        have hls : Op.bytesLess y.1 x.1 = true ∨ (Op.bytesLess y.1 x.1 = false ∧ (y.1 == x.1) = true) := by
          rw [bytesLess_eq]
          by_cases he : y.1 = x.1
          · exact .inr ⟨decide_eq_false (by rw [he]; exact lt_irrefl' _), beq_iff_eq.2 he⟩
          · rcases lt_total' _ _ he with h | h
            · exact .inl (decide_eq_true h)
            · exact absurd h hq
        rcases hls with hls | ⟨hls, hls2⟩
        all_goals
          have gx := fun d os => cell_regrown x0 d os
          have gc1 := fun d os => cell_regrown h1 d os
          go_upto_region 10 with fail
          refine wp_region_quiet_below (by kernel_rfl) (by kernel_rfl) ?_
          repeat (go_big_quiet_step (fail))
          refine wpQuiet_nil ?_
          intro _ hw'
          obtain ⟨⟨dq, osq⟩, hw''⟩ := hw'
          subst hw''
          have HB7 := Lib.hid (below_regrown wr dq osq)
          generalize Sort.grow (redrawn wr dq) osq = w7 at HB7 ⊢
          have HOW7 := Lib.hid (owns_same HOW.out fun g hg => HB7.out.block g (HOW.out.lt g hg).2)
          have hb7 := Below.next HB.out HB7.out
          clear gx gc1 h1 h2 x0 x1
          go_wp2_with fail
          exact ⟨⟨k + 1, by omega, by go_num, by rw [HS.out]; exact HOW7.out, hb7⟩, by simp [intOf]; omega⟩
    · have e1 : decide ((k : Int) < (l.length : Int)) = false := decide_eq_false (by omega)
      have e1' : decide (k < l.length) = false := decide_eq_false hlt
      obtain rfl : k = l.length := by omega
      have hfin : A ++ greaterT (l.take l.length) x.1 = withT l x.1 x.2 := by
        rw [List.take_length, ← hA, ← hpl, ← lesser_is hl]
        unfold withT
        rw [List.append_assoc]
        rfl
      rw [hfin] at HOW
      clear x0 x1
      go_wp2_with fail
      go_ret
      exact ⟨_, rfl, owns_weaken HOW.out (by omega), Below.next HB0.out HB.out⟩
end Go.Proofs.YtmmoilmfpiclgaaGreat.Fld
namespace Go.Proofs.YtmmoilmfpiclgaaGreat.Fld
open Go.RowKit Go.Shelf
attribute [local instance] alone

/-- The document's folder in memory: at block q; Ws: what was there; J: the blocks that it stands in. -/
structure RefAt (w : World) (q : Nat) (Ws : List Names) (n : Nat) (J : Nat → Prop) : Prop where
  it : ∃ av vs, w.heap[q]? = some (.cells #[av, .int .i64 (n : Int)] 129 (0, 0)) ∧ w.ownsRow 0 131 1 av Ws.length vs ∧ vs.length = Ws.length ∧ J q ∧ (∀ g, av.ownBlock = some g → J g) ∧
    ∀ i (h : i < Ws.length), ∃ v, vs[i]? = some v ∧ w.ownsRow 0 135 2 v Ws[i].length (nams Ws[i]) ∧ ∀ g, v.ownBlock = some g → J g
  some : 1 ≤ Ws.length
  rising : ∀ i (h : i < Ws.length), Rising Ws[i]
  small : Ws.length ≤ 100000 ∧ n ≤ 100000 ∧ ∀ i (h : i < Ws.length), Ws[i].length ≤ 100000
  mem : ∀ g, J g → g < w.heap.size

theorem RefAt.same {w w' : World} {q n : Nat} {Ws : List Names} {J : Nat → Prop} (h : RefAt w q Ws n J) (he : ∀ g, J g → w'.heap[g]? = w.heap[g]?) (hs : w.heap.size ≤ w'.heap.size) : RefAt w' q Ws n J := by
  obtain ⟨av, vs, h1, h2, h3, h4, h5, h6⟩ := h.it
  refine ⟨⟨av, vs, (he q h4).trans h1, owns_same h2 fun g hg => he g (h5 g hg), h3, h4, h5, fun i hi => ?_⟩, h.some, h.rising, h.small, fun g hg => Nat.lt_of_lt_of_le (h.mem g hg) hs⟩
  obtain ⟨v, k1, k2, k3⟩ := h6 i hi
  exact ⟨v, k1, owns_same k2 fun g hg => he g (k3 g hg), k3⟩
theorem RefAt.kept {w w' : World} {q n : Nat} {Ws : List Names} {J N : Nat → Prop} (h : RefAt w q Ws n J) (hk : Kept N w w') (hn : ∀ g, J g → ¬ N g) : RefAt w' q Ws n J :=
  h.same (fun g hg => hk.block g (h.mem g hg) (hn g hg)) hk.size
theorem RefAt.below {w w' : World} {q n : Nat} {Ws : List Names} {J : Nat → Prop} (h : RefAt w q Ws n J) (hb : Below w.heap.size w w') : RefAt w' q Ws n J :=
  h.same (fun g hg => hb.block g (h.mem g hg)) hb.size

/-- What is there now. -/
def nowN (Ws : List Names) : Names := Ws.getLastD []

theorem nowN_at {Ws : List Names} (h : 1 ≤ Ws.length) : nowN Ws = Ws[Ws.length - 1] := by
  unfold nowN
  rw [List.getLastD_eq_getLast?, List.getLast?_eq_getElem?, List.getElem?_eq_getElem (by omega)]
  rfl

set_option maxRecDepth 100000 in
theorem refMay_any (s : ByteArray) (_hs : s.size ≤ nameMax) (w : World) : Calls Tryz.prog 98 #[.string s] w fun e w' => e = .returned (.bool (mayB s)) ∧ w = w' := by
  have hm : mayB s = (decide (0 < s.size) && decide (s.size ≤ 64)) := by
    unfold mayB
    rw [Bool.eq_iff_iff]
    simp
  rw [hm]
  obtain ⟨z, hz⟩ : ∃ z, s.size = z := ⟨_, rfl⟩
  rw [hz]
  rcases Nat.eq_zero_or_pos z with h0 | h0
  · have e1 : decide (0 < z) = false := decide_eq_false (by omega)
    have e1' : decide (0 < (z : Int)) = false := decide_eq_false (by omega)
    rw [e1]
    go_enter Tryz.func98, Tryz.ntmps98
    go_wp2
    go_ret
    exact ⟨rfl, rfl⟩
  · have e1 : decide (0 < z) = true := decide_eq_true h0
    have e1' : decide (0 < (z : Int)) = true := decide_eq_true (by omega)
    rw [e1]
    by_cases h1 : z ≤ 64
    · have e2 : decide (z ≤ 64) = true := decide_eq_true h1
      have e2' : decide ((z : Int) ≤ 64) = true := decide_eq_true (by omega)
      rw [e2]
      go_enter Tryz.func98, Tryz.ntmps98
      go_wp2
      go_ret
      exact ⟨rfl, rfl⟩
    · have e2 : decide (z ≤ 64) = false := decide_eq_false h1
      have e2' : decide ((z : Int) ≤ 64) = false := decide_eq_false (by omega)
      rw [e2]
      go_enter Tryz.func98, Tryz.ntmps98
      go_wp2
      go_ret
      exact ⟨rfl, rfl⟩

/-- The cells of what was there. -/
theorem was_cells {w : World} {av : Value} {vs : List Value} {n : Nat} (h : w.ownsRow 0 131 1 av n vs) (_hv : vs.length = n) (hn : 1 ≤ n) : ∃ g c, av = .slice (some ⟨g, 0, none⟩) n c ∧ n ≤ c ∧ c ≤ 9223372036854775807 ∧ g < w.heap.size ∧ ∀ i (_hi : i < n) v, vs[i]? = some v → w.cell? ⟨g, i, none⟩ = some v := by
  rcases h.2 with ⟨_, h0⟩ | ⟨g, cap, cur, rfl, _, hg, h1, h2, _, ht⟩
  · omega
  · unfold maxLen at h2
    refine ⟨g, cap, rfl, h1, h2, (Array.getElem?_eq_some_iff.1 hg).1, fun i hi v hx => ?_⟩
    rw [cell_of_row w g i cur 131 (0, 0) hg, ← Array.getElem?_toList]
    rw [← ht, List.getElem?_take] at hx
    split at hx
    · exact hx
    · cases hx

set_option maxRecDepth 100000 in
theorem refNow_any {w : World} {q n : Nat} {Ws : List Names} {J : Nat → Prop} (h : RefAt w q Ws n J) :
    Calls Tryz.prog 101 #[.pointer (some ⟨q, 0, none⟩)] w fun e w' => ∃ v, e = .returned v ∧ (w.ownsRow 0 135 2 v (nowN Ws).length (nams (nowN Ws)) ∧ ∀ g, v.ownBlock = some g → J g) ∧ Below w.heap.size w w' := by
  obtain ⟨av, vs, h1, h2, h3, h4, h5, h6⟩ := h.it
  have hs := h.some
  obtain ⟨v, k1, k2, k3⟩ := h6 (Ws.length - 1) (by omega)
  rw [← nowN_at hs] at k2
  obtain ⟨g, c, rfl, hc1, hc2, hlt, hcell⟩ := was_cells h2 h3 hs
  have k0 := hcell _ (by omega) _ k1
  have c0 : w.cell? ⟨q, 0, none⟩ = some (.slice (some ⟨g, 0, none⟩) Ws.length c) := by rw [cell_of_row w q 0 _ 129 (0, 0) h1]; rfl
  have HV := Lib.hid (And.intro k2 k3)
  obtain ⟨i, hi⟩ : ∃ i, Ws.length = i + 1 := ⟨Ws.length - 1, by omega⟩
  rw [hi] at c0
  rw [show Ws.length - 1 = i by omega] at k0
  have hsm := h.small.1
  have e1 : ((i + 1 : Nat) : Int) - 1 = (i : Int) := by omega
  have e2 : IntKind.i64.wrap (i : Int) = (i : Int) := IntWalk.i64_in _ ⟨by omega, by omega⟩
  clear k2 k3 hcell h6 h5 h4 h2 h1 h k1 h3
  go_enter Tryz.func101, Tryz.ntmps101
  have gc := fun d os => cell_regrown c0 d os
  have gk := fun d os => cell_regrown k0 d os
  go_upto_region 1 with fail
  refine wp_region_quiet_below (by kernel_rfl) (by kernel_rfl) ?_
  repeat (go_big_quiet_step (fail))
  refine wpQuiet_nil ?_
  intro _ hw'
  obtain ⟨⟨dq, osq⟩, hw''⟩ := hw'
  subst hw''
  have HB7 := Lib.hid (below_regrown w dq osq)
  generalize Sort.grow (redrawn w dq) osq = w7 at HB7 ⊢
  clear gc gk c0 k0
  go_wp2
  go_ret
  exact ⟨_, rfl, HV.out, HB7.out⟩
end Go.Proofs.YtmmoilmfpiclgaaGreat.Fld
namespace Go.Proofs.YtmmoilmfpiclgaaGreat.Fld
open Go.RowKit Go.Shelf
attribute [local instance] alone

theorem foundN_of {L : Names} {k : List UInt8} {m : Nat} (h : findT L k = some m) : foundN L k = m := by unfold foundN; rw [h]; rfl
theorem foundB_of {L : Names} {k : List UInt8} {m : Nat} (h : findT L k = some m) : foundB L k = true := by unfold foundB; rw [h]; rfl


theorem find_drop (l : Names) (k : Nat) (h : k < l.length) (s : List UInt8) : findT (l.drop k) s = if (nam l k).1 = s then some (nam l k).2 else findT (l.drop (k + 1)) s := by
  rw [List.drop_eq_getElem_cons h, nam_lt h]
  unfold findT
  rw [List.find?_cons]
  by_cases hs : l[k].1 = s
  · rw [if_pos hs, decide_eq_true hs]; rfl
  · rw [if_neg hs, decide_eq_false hs]

set_option maxRecDepth 100000 in
theorem refPending_any {w : World} {q n : Nat} {Ws : List Names} {J : Nat → Prop} (h : RefAt w q Ws n J) :
    Calls Tryz.prog 102 #[.pointer (some ⟨q, 0, none⟩)] w fun e w' => e = .returned (.int .i64 ((Ws.length - 1 : Nat) : Int)) ∧ Below w.heap.size w w' := by
  obtain ⟨av, vs, h1, h2, h3, h4, h5, h6⟩ := h.it
  have hs := h.some
  obtain ⟨g, c, rfl, hc1, hc2, hlt, hcell⟩ := was_cells h2 h3 hs
  have c0 : w.cell? ⟨q, 0, none⟩ = some (.slice (some ⟨g, 0, none⟩) Ws.length c) := by rw [cell_of_row w q 0 _ 129 (0, 0) h1]; rfl
  obtain ⟨i, hi⟩ : ∃ i, Ws.length = i + 1 := ⟨Ws.length - 1, by omega⟩
  rw [hi] at c0
  rw [show Ws.length - 1 = i by omega]
  have hsm := h.small.1
  have e2 : IntKind.i64.wrap (i : Int) = (i : Int) := IntWalk.i64_in _ ⟨by omega, by omega⟩
  clear hcell h6 h5 h4 h2 h1 h h3
  go_enter Tryz.func102, Tryz.ntmps102
  go_wp2
  go_ret
  exact ⟨rfl, Below.refl _ _⟩

set_option maxHeartbeats 1000000 in
set_option maxRecDepth 100000 in
theorem refFind_any {w : World} {q n : Nat} {Ws : List Names} {J : Nat → Prop} (h : RefAt w q Ws n J) (s : ByteArray) :
    Calls Tryz.prog 97 #[.pointer (some ⟨q, 0, none⟩), .string s] w fun e w' => e = .returned (.tuple #[.int .i64 (foundN (nowN Ws) s.data.toList : Nat), .bool (foundB (nowN Ws) s.data.toList)]) ∧ Below w.heap.size w w' := by
  have Q39 := Lib.hid (refNow_any h)
  have hll : (nowN Ws).length ≤ 100000 := by
    have := h.some
    rw [nowN_at this]
    exact h.small.2.2 _ (by omega)
  obtain ⟨l, hl⟩ : ∃ l, nowN Ws = l := ⟨_, rfl⟩
  rw [hl] at Q39 hll ⊢
  have hsk : s.toList = s.data.toList := Lib.toList_data s
  obtain ⟨N, hN⟩ : ∃ N, foundN l s.data.toList = N := ⟨_, rfl⟩
  obtain ⟨B, hB⟩ : ∃ B, foundB l s.data.toList = B := ⟨_, rfl⟩
  rw [hN, hB]
  have HNB := Lib.hid (And.intro hN hB)
  clear h hl hN hB
  go_enter Tryz.func97, Tryz.ntmps97
  go_upto_block 0 with (go_at_call 101; (with_reducible refine Q39.out.mono ?_); rintro e w1 ⟨v, rfl, ⟨r1, _⟩, b1⟩; have HN := Lib.hid (nams_cell ((nams_of_owns r1).below b1)); have HB1 := Lib.hid b1; clear r1 b1)
  obtain ⟨ad, cp, rfl, hc⟩ := HN.out
  have HC := Lib.hid hc
  clear hc HN Q39
  go_wp2_with fail
  go_loopw [7] (fun s7 wr => ∃ k : Nat, k ≤ l.length ∧ s7 = .int .i64 k ∧ findT (l.drop k) s.data.toList = findT l s.data.toList ∧ Below w1.heap.size w1 wr) (fun s7 _ => l.length - (intOf s7).toNat)
  case atStart => exact ⟨0, Nat.zero_le _, rfl, rfl, Below.refl _ _⟩
  case round =>
    obtain ⟨k, hk, rfl, hf, hb⟩ := hrel
    have HB := Lib.hid hb
    clear hb
    by_cases hlt : k < l.length
    · have e1 : decide ((k : Int) < (l.length : Int)) = true := decide_eq_true (by omega)
      have e1' : decide (k < l.length) = true := decide_eq_true hlt
      obtain ⟨b, o, rfl, hE⟩ := HC.out k hlt
      obtain ⟨h1, h2⟩ := hE.below HB.out
      have hfd := find_drop l k hlt s.data.toList
      obtain ⟨y, hy⟩ : ∃ y, nam l k = y := ⟨_, rfl⟩
      rw [hy] at h1 h2 hfd
      have hyk : (strO y.1).toList = y.1 := by rw [Lib.toList_data, strO_data]
      clear hy hE
      by_cases hq : y.1 = s.data.toList
      · rw [if_pos hq, hf] at hfd
        have hqb : (y.1 == s.data.toList) = true := beq_iff_eq.2 hq
        obtain rfl : N = y.2 := HNB.out.1.symm.trans (foundN_of hfd)
        obtain rfl : B = true := HNB.out.2.symm.trans (foundB_of hfd)
        clear hfd hf hq
        go_wp2_with fail
        go_ret2
        exact ⟨rfl, Below.next HB1.out HB.out⟩
      · rw [if_neg hq, hf] at hfd
        have hqb : (y.1 == s.data.toList) = false := by simp [hq]
        have HF := Lib.hid hfd
        clear hfd hf hq
        go_wp2_with fail
        exact ⟨⟨k + 1, by omega, by go_num, HF.out.symm, HB.out⟩, by simp [intOf]; omega⟩
    · have e1 : decide ((k : Int) < (l.length : Int)) = false := decide_eq_false (by omega)
      have e1' : decide (k < l.length) = false := decide_eq_false hlt
      have hnone : findT l s.data.toList = none := by
        rw [← hf, List.drop_of_length_le (by omega)]
        rfl
      have hF : foundN l s.data.toList = 0 ∧ foundB l s.data.toList = false := by
        unfold foundN foundB
        rw [hnone]
        exact ⟨rfl, rfl⟩
      obtain rfl : N = 0 := HNB.out.1.symm.trans hF.1
      obtain rfl : B = false := HNB.out.2.symm.trans hF.2
      clear hF hnone hf
      go_wp2_with fail
      go_ret2
      exact ⟨rfl, Below.next HB1.out HB.out⟩

/-- A folder that has but what there is. -/
theorem ref_one {W : World} {q g n : Nat} {v : Value} {l : Names} {J : Nat → Prop} (hq : W.heap[q]? = some (.cells #[.slice (some ⟨g, 0, none⟩) 1 1, .int .i64 (n : Int)] 129 (0, 0))) (hg : W.heap[g]? = some (.cells #[v] 131 (0, 0)))
    (hv : W.ownsRow 0 135 2 v l.length (nams l)) (hJ : J q ∧ J g ∧ ∀ k, v.ownBlock = some k → J k) (hr : Rising l) (hl : l.length ≤ 100000) (hn : n ≤ 100000) (hm : ∀ k, J k → k < W.heap.size) : RefAt W q [l] n J := by
  refine ⟨⟨_, [v], hq, ⟨rfl, .inr ⟨g, 1, #[v], rfl, Nat.zero_le _, hg, Nat.le_refl _, by unfold maxLen; omega, rfl, rfl⟩⟩, rfl, hJ.1, fun k hk => ?_, fun i hi => ?_⟩, Nat.le_refl _, fun i hi => ?_, ⟨by simp, hn, fun i hi => ?_⟩, hm⟩
  · cases hk
    exact hJ.2.1
  · obtain rfl : i = 0 := by simpa using hi
    exact ⟨v, rfl, hv, hJ.2.2⟩
  · obtain rfl : i = 0 := by simpa using hi
    exact hr
  · obtain rfl : i = 0 := by simpa using hi
    exact hl

set_option maxHeartbeats 1000000 in
set_option maxRecDepth 100000 in
theorem refNew_any (w : World) : Calls Tryz.prog 44 #[] w fun e w' => ∃ q J, e = .returned (.pointer (some ⟨q, 0, none⟩)) ∧ RefAt w' q [[]] 0 J ∧ (∀ g, J g → w.heap.size ≤ g) ∧ Below w.heap.size w w' := by
  go_enter Tryz.func44, Tryz.ntmps44
  go_wp2
  go_ret
  have hz : (w.alloc (.cells #[.slice none 0 0] 131)).heap.size = w.heap.size + 1 := by simp
  have h1 := (MapKept.heap_alloc (w.alloc (.cells #[.slice none 0 0] 131)) (.cells #[.slice (some ⟨w.heap.size, 0, none⟩) 1 1, .int .i64 0] 129)).1
  rw [hz] at h1
  have h0 := (MapKept.heap_alloc w (.cells #[.slice none 0 0] 131)).1
  have hb := below_alloc' (o := .cells #[.slice (some ⟨w.heap.size, 0, none⟩) 1 1, .int .i64 0] 129) (Below.refl _ (w.alloc (.cells #[.slice none 0 0] 131)))
  have h0' := (hb.block w.heap.size (by omega)).trans h0
  exact ⟨w.heap.size + 1, fun k => k = w.heap.size ∨ k = w.heap.size + 1, rfl, ref_one (n := 0) h1 h0' (World.ownsRow_nil _ 0 135 2) ⟨.inr rfl, .inl rfl, fun k hk => by cases hk⟩ Rising.nil (by simp) (by omega) (fun k hk => by simp; omega), fun k hk => by omega, Below.next (below_alloc' (Below.refl _ w)) hb⟩

theorem texts_snoc (l : Names) (k : Nat) (h : k < l.length) : textsOf (l.take (k + 1)) = textsOf (l.take k) ++ [strO (nam l k).1] := by
  rw [List.take_succ_eq_append_getElem h, nam_lt h]
  unfold textsOf
  rw [List.map_append]
  rfl

set_option maxHeartbeats 1000000 in
set_option maxRecDepth 100000 in
theorem refNames_any {w : World} {q n : Nat} {Ws : List Names} {J : Nat → Prop} (h : RefAt w q Ws n J) :
    Calls Tryz.prog 129 #[.pointer (some ⟨q, 0, none⟩)] w fun e w' => ∃ v, e = .returned v ∧ w'.ownsRow w.heap.size 9 1 v (nowN Ws).length ((textsOf (nowN Ws)).map Value.string) ∧ Below w.heap.size w w' := by
  have Q39 := Lib.hid (refNow_any h)
  have hll : (nowN Ws).length ≤ 100000 := by
    have := h.some
    rw [nowN_at this]
    exact h.small.2.2 _ (by omega)
  obtain ⟨l, hl⟩ : ∃ l, nowN Ws = l := ⟨_, rfl⟩
  rw [hl] at Q39 hll ⊢
  clear h hl
  go_enter Tryz.func129, Tryz.ntmps129
  go_upto_block 0 with (go_at_call 101; (with_reducible refine Q39.out.mono ?_); rintro e w1 ⟨v, rfl, ⟨r1, _⟩, b1⟩; have HN := Lib.hid (nams_cell ((nams_of_owns r1).below b1)); have HB1 := Lib.hid b1; clear r1 b1)
  obtain ⟨ad, cp, rfl, hc⟩ := HN.out
  have HC := Lib.hid hc
  obtain ⟨i0, hi, hz1, hz2, hz3⟩ := info_parts i9n
  have hz0 := HB1.out.size
  clear hc HN Q39
  go_wp2_with fail
  go_loopw [3, 5] (fun s3 s5 wr => ∃ k : Nat, k ≤ l.length ∧ s5 = .int .i64 k ∧ wr.ownsRow w1.heap.size 9 1 s3 k ((textsOf (l.take k)).map Value.string) ∧ Below w1.heap.size w1 wr) (fun _ s5 _ => l.length - (intOf s5).toNat)
  case atStart => exact ⟨0, Nat.zero_le _, rfl, World.ownsRow_nil _ _ _ _, Below.refl _ _⟩
  case round =>
    obtain ⟨k, hk, rfl, hown, hb⟩ := hrel
    have HB := Lib.hid hb
    have hz2' := hb.size
    clear hb
    by_cases hlt : k < l.length
    · have e1 : decide ((k : Int) < (l.length : Int)) = true := decide_eq_true (by omega)
      have e1' : decide (k < l.length) = true := decide_eq_true hlt
      obtain ⟨b, o, rfl, hE⟩ := HC.out k hlt
      obtain ⟨h1, h2⟩ := hE.below HB.out
      have hsn := texts_snoc l k hlt
      obtain ⟨y, hy⟩ : ∃ y, strO (nam l k).1 = y := ⟨_, rfl⟩
      rw [hy] at h1 hsn
      have HS := Lib.hid hsn
      have HOW := Lib.hid hown
      clear hy hE hsn h2 hown
      go_wp2_with (at_builtin; refine wpList_append_own_at _ rfl _ _ 62 rfl w1.heap.size 9 i0 (.string ⟨#[]⟩) 1 16 Tryz.underlying62 hi hz1 hz2 hz3 rfl (by decide) _ _ _ rfl (HOW.out.alloc _) ⟨wr.heap.size, 0, none⟩ 1 1 [.string y] rfl rfl (cell_one_new _ _ _) (by simp [Value.oneCell']) (by unfold maxLen; omega) (by omega) (by simp; omega) ?_; intro v' w' o1 g1 _ _)
      exact ⟨⟨k + 1, by omega, by go_num, by rw [HS.out, List.map_append]; exact o1, (below_alloc' HB.out).grown g1 (by simp; omega) (fun j hj => (HOW.out.lt j hj).1)⟩, by simp [intOf]; omega⟩
    · have e1 : decide ((k : Int) < (l.length : Int)) = false := decide_eq_false (by omega)
      have e1' : decide (k < l.length) = false := decide_eq_false hlt
      obtain rfl : k = l.length := by omega
      rw [List.take_length] at hown
      have HOW := Lib.hid hown
      clear hown
      go_wp2_with fail
      go_ret
      exact ⟨_, rfl, owns_weaken HOW.out (by omega), Below.next HB1.out HB.out⟩
end Go.Proofs.YtmmoilmfpiclgaaGreat.Fld
namespace Go.Proofs.YtmmoilmfpiclgaaGreat.Fld
open Go.RowKit Go.Shelf
attribute [local instance] alone

theorem i64n : (Tryz.prog.info? 131).map (fun i => (i.zero, i.size, i.bytes)) = some (some (.slice none 0 0), 1, 24) := by kernel_rfl

theorem row_one {w : World} {base size n : Nat} {e : TypeId} {v : Value} {xs : List Value} (h : w.ownsRow base e size v n xs) : v.oneCell' = true := by
  obtain ⟨ad, c, rfl⟩ := row_shape h
  rfl

/-- One more. -/
theorem ref_snoc {w W : World} {q n m : Nat} {Ws : List Names} {J : Nat → Prop} (h : RefAt w q Ws n J) {l : Names} {lv av : Value} {vs : List Value} (hvs : w.ownsRow 0 131 1 av Ws.length vs ∧ vs.length = Ws.length ∧ ∀ i (h : i < Ws.length), ∃ v, vs[i]? = some v ∧ w.ownsRow 0 135 2 v Ws[i].length (nams Ws[i]) ∧ ∀ g, v.ownBlock = some g → J g)
    (hb : Kept (fun g => g = q) w W) (hq : ∀ v, w.heap[q]? = some v → ∃ cs, v = .cells cs 129 (0, 0)) {v' : Value} (hW : W.heap[q]? = some (.cells #[v', .int .i64 (m : Int)] 129 (0, 0))) (hv' : W.ownsRow w.heap.size 131 1 v' (Ws.length + 1) (vs ++ [lv])) (hl : W.ownsRow 0 135 2 lv l.length (nams l)) (hr : Rising l) (hll : l.length ≤ 100000) (hm : m ≤ 100000) (hlen : Ws.length < 100000) :
    RefAt W q (Ws ++ [l]) m fun g => J g ∨ lv.ownBlock = some g ∨ v'.ownBlock = some g := by
  have hJq : J q := by
    obtain ⟨_, _, _, _, _, h4, _⟩ := h.it
    exact h4
  have hne : ∀ g, (∃ cs T, w.heap[g]? = some (.cells cs T (0, 0)) ∧ T ≠ 129) → g ≠ q := fun g ⟨cs, T, hg, ht⟩ e => by
    subst e
    obtain ⟨ds, hd⟩ := hq _ hg
    cases hd
    exact ht rfl
  refine ⟨⟨v', vs ++ [lv], hW, by rw [List.length_append]; exact owns_weaken hv' (Nat.zero_le _), by simp [hvs.2.1], .inl hJq, fun g hg => .inr (.inr hg), fun i hi => ?_⟩, by simp, fun i hi => ?_, ⟨by simp; omega, hm, fun i hi => ?_⟩, fun g hg => ?_⟩
  · rw [List.length_append] at hi
    by_cases hi2 : i < Ws.length
    · obtain ⟨v, k1, k2, k3⟩ := hvs.2.2 i hi2
      refine ⟨v, by rw [List.getElem?_append_left (by omega)]; exact k1, ?_, fun g hg => .inl (k3 g hg)⟩
      rw [List.getElem_append_left hi2]
      refine owns_same k2 fun g hg => ?_
      obtain ⟨cs, hcs⟩ := owns_mem k2 hg
      exact hb.block g (k2.lt g hg).2 (hne g ⟨cs, 135, hcs, by decide⟩)
    · obtain rfl : i = Ws.length := by simp at hi; omega
      refine ⟨lv, by rw [List.getElem?_append_right (by omega), hvs.2.1]; simp, ?_, fun g hg => .inr (.inl hg)⟩
      rw [List.getElem_append_right (by omega)]
      simpa using hl
  · rw [List.length_append] at hi
    by_cases hi2 : i < Ws.length
    · rw [List.getElem_append_left hi2]; exact h.rising i hi2
    · rw [List.getElem_append_right (by omega)]
      simpa using hr
  · rw [List.length_append] at hi
    by_cases hi2 : i < Ws.length
    · rw [List.getElem_append_left hi2]; exact h.small.2.2 i hi2
    · rw [List.getElem_append_right (by omega)]
      simpa using hll
  · rcases hg with hg | hg | hg
    · exact Nat.lt_of_lt_of_le (h.mem g hg) hb.size
    · exact (hl.lt g hg).2
    · exact (hv'.lt g hg).2

set_option maxHeartbeats 1000000 in
set_option maxRecDepth 100000 in
theorem refAct_any {w : World} {q n : Nat} {Ws : List Names} {J : Nat → Prop} (h : RefAt w q Ws n J) {l : Names} {lv : Value} (hl : w.ownsRow 0 135 2 lv l.length (nams l)) (hr : Rising l) (hll : l.length ≤ 100000) (hlen : Ws.length < 100000) :
    Calls Tryz.prog 99 #[.pointer (some ⟨q, 0, none⟩), lv] w fun e w' => e = .returned (.tuple #[]) ∧ (∃ J', RefAt w' q (Ws ++ [l]) n J' ∧ ∀ g, J' g → J g ∨ lv.ownBlock = some g ∨ w.heap.size ≤ g) ∧ Kept (fun g => g = q) w w' := by
  obtain ⟨av, vs, h1, h2, h3, h4, h5, h6⟩ := h.it
  have hs := h.some
  have hvs := And.intro h2 (And.intro h3 h6)
  obtain ⟨g, c, rfl, hc1, hc2, hlt, hcell⟩ := was_cells h2 h3 hs
  have c0 : w.cell? ⟨q, 0, none⟩ = some (.slice (some ⟨g, 0, none⟩) Ws.length c) := by rw [cell_of_row w q 0 _ 129 (0, 0) h1]; rfl
  have f0 : w.frozen? ⟨q, 0, none⟩ = false := by simp [World.frozen?, h1]
  have hone : ∀ u ∈ vs, u.oneCell' = true := fun u hu => by
    obtain ⟨i, hi, rfl⟩ := List.mem_iff_getElem.1 hu
    obtain ⟨v, k1, k2, _⟩ := h6 i (by omega)
    rw [List.getElem?_eq_getElem hi] at k1
    cases k1
    exact row_one k2
  obtain ⟨ladd, lc, rfl⟩ := row_shape hl
  obtain ⟨i0, hi, hz1, hz2, hz3⟩ := info_parts i64n
  have hsm := h.small.1
  have hql : q < w.heap.size := (Array.getElem?_eq_some_iff.1 h1).1
  have HP : Hid (∀ W, Below w.heap.size w W → W.cell? ⟨q, 0, none⟩ = some (.slice (some ⟨g, 0, none⟩) Ws.length c) ∧ W.frozen? ⟨q, 0, none⟩ = false) := Lib.hid fun W hW => ⟨by rw [hW.cell (p := ⟨q, 0, none⟩) hql]; exact c0, by rw [hW.frozen (p := ⟨q, 0, none⟩) hql]; exact f0⟩
  have HN : Hid (∀ W, Below w.heap.size w W → ∀ j u, vs[j]? = some u → W.cell? ((⟨g, 0, none⟩ : Addr).add j) = some u) := Lib.hid fun W hW j u hj => by
    have hjl := (List.getElem?_eq_some_iff.1 hj).1
    rw [Addr.add_lit, Nat.zero_add, hW.cell (p := ⟨g, j, none⟩) hlt]
    exact hcell j (by omega) u hj
  have hbA := below_alloc' (o := .cells #[] 131) (Below.refl _ w)
  have HBA := Lib.hid hbA
  obtain ⟨a0, af⟩ := HP.out _ hbA
  have hqne : q ≠ w.heap.size := by omega
  have FIN : Hid (∀ w4 v4, Below w.heap.size w w4 → w4.ownsRow w.heap.size 131 1 v4 (Ws.length + 1) (vs ++ [.slice ladd l.length lc]) → (∃ J', RefAt (w4.setCell ⟨q, 0, none⟩ v4) q (Ws ++ [l]) n J' ∧ ∀ g, J' g → J g ∨ (Value.slice ladd l.length lc).ownBlock = some g ∨ w.heap.size ≤ g) ∧ Kept (fun g => g = q) w (w4.setCell ⟨q, 0, none⟩ v4)) := Lib.hid fun w4 v4 hb4 ho4 => by
    have hk : Kept (fun g => g = q) w (w4.setCell ⟨q, 0, none⟩ v4) := (Kept.below hb4).trans (Kept.grown (grown_setCell _ _ _ _) (M := fun g => g = q) (fun g hg => by cases hg; rfl)) (fun g hg => .inl hg)
    have h4q := (hb4.block q hql).trans h1
    have h4q' := setCell_heap h4q 0 v4
    have ho4' : (w4.setCell ⟨q, 0, none⟩ v4).ownsRow w.heap.size 131 1 v4 (Ws.length + 1) (vs ++ [.slice ladd l.length lc]) := owns_same ho4 fun g hg => heap_setCell_ne (by have := (ho4.lt g hg).1; omega)
    have hl4 : (w4.setCell ⟨q, 0, none⟩ v4).ownsRow 0 135 2 (.slice ladd l.length lc) l.length (nams l) := owns_same (owns_same hl fun g hg => hb4.block g (hl.lt g hg).2) fun g hg => heap_setCell_ne (fun e => by
      subst e
      obtain ⟨cs, hcs⟩ := owns_mem hl hg
      rw [h1] at hcs
      cases hcs)
    refine ⟨⟨_, ref_snoc h hvs hk (fun v hv => by rw [h1] at hv; cases hv; exact ⟨_, rfl⟩) h4q' ho4' hl4 hr hll h.small.2.1 hlen, fun g hg => ?_⟩, hk⟩
    rcases hg with hg | hg | hg
    · exact .inl hg
    · exact .inr (.inl hg)
    · exact .inr (.inr (ho4.lt g hg).1)
  have hvl : vs.length = Ws.length * 1 := by omega
  clear hvs h6 h5 h4 h1 h2 h hl hcell hbA hr
  go_enter Tryz.func99, Tryz.ntmps99
  go_wp2_with (first
    | (at_builtin; refine wpList_append_own_at _ rfl _ _ 127 rfl w.heap.size 131 i0 (.slice none 0 0) 1 24 Tryz.underlying127 hi hz1 hz2 hz3 rfl (by decide) (.slice (some ⟨w.heap.size, 0, none⟩) 0 0) 0 [] rfl (World.ownsRow_made w #[] 0 (Nat.le_refl _) (Nat.zero_le _) rfl) ⟨g, 0, none⟩ Ws.length c vs rfl hvl (HN.out _ HBA.out) hone (by unfold maxLen; omega) (by omega) (by simp) ?_; intro v3 w3 o3 g3 _ _; rw [List.nil_append, Nat.zero_add] at o3; have hb3 := HBA.out.grown g3 (by simp) (fun k hk => by cases hk; exact Nat.le_refl _); have HB3 := Lib.hid hb3; have HO3 := Lib.hid o3; have HZ3 := Lib.hid hb3.size; obtain ⟨k0, kf⟩ := HP.out _ hb3; clear o3 g3 hb3)
    | (at_builtin; refine wpList_append_own_at _ rfl _ _ 127 rfl w.heap.size 131 i0 (.slice none 0 0) 1 24 Tryz.underlying127 hi hz1 hz2 hz3 rfl (by decide) _ _ _ rfl (HO3.out.alloc _) ⟨w3.heap.size, 0, none⟩ 1 1 [.slice ladd l.length lc] rfl rfl (cell_one_new _ _ _) (by simp [Value.oneCell']) (by unfold maxLen; omega) (by omega) (by have := HZ3.out; simp; omega) ?_; intro v4 w4 o4 g4 _ _; have hb4 := (below_alloc' HB3.out).grown g4 (by have := HZ3.out; simp; omega) (fun k hk => (HO3.out.lt k hk).1); have HB4 := Lib.hid hb4; have HO4 := Lib.hid o4; obtain ⟨m0, mf⟩ := HP.out _ hb4; obtain ⟨ad4, c4, rfl⟩ := row_shape o4; clear o4 g4 hb4))
  exact bodyPost_end (v := .tuple #[]) (by simp [results, Tryz.results99, go_sem]) rfl ⟨rfl, FIN.out _ _ HB4.out HO4.out⟩
end Go.Proofs.YtmmoilmfpiclgaaGreat.Fld
namespace Go.Proofs.YtmmoilmfpiclgaaGreat.Fld
open Go.RowKit Go.Shelf
attribute [local instance] alone

theorem FS.there_length (S : FS) : S.there.length ≤ S.weight := by
  have := actsOn_length S.L0 S.A
  unfold FS.weight FS.there
  omega

/-- What was there behind 0, 1, .. acts. -/
def FS.was (S : FS) : List Names := (List.range (S.A.length + 1)).map fun i => actsOn S.L0 (S.A.take i)
theorem was_length (S : FS) : S.was.length = S.A.length + 1 := by unfold FS.was; simp
theorem was_at (S : FS) (i : Nat) (h : i < S.was.length) : S.was[i] = actsOn S.L0 (S.A.take i) := by
  have h0 : i < S.A.length + 1 := by rw [← was_length]; exact h
  have h1 : S.was[i]? = some (actsOn S.L0 (S.A.take i)) := by
    unfold FS.was
    rw [List.getElem?_map, List.getElem?_range h0]
    rfl
  rw [List.getElem?_eq_getElem h] at h1
  exact Option.some.inj h1
theorem was_now (S : FS) : nowN S.was = S.there := by
  rw [nowN_at (by rw [was_length]; omega), was_at]
  rw [was_length, Nat.add_sub_cancel, List.take_length]
  rfl
theorem was_snoc (L0 : Names) (A : List FAct) (n m : Nat) (x : FAct) : FS.was ⟨L0, A ++ [x], m⟩ = FS.was ⟨L0, A, n⟩ ++ [x.on (actsOn L0 A)] := by
  unfold FS.was
  show (List.range ((A ++ [x]).length + 1)).map _ = (List.range (A.length + 1)).map _ ++ _
  rw [List.length_append, List.length_singleton, List.range_succ (n := A.length + 1), List.map_append]
  congr 1
  · refine List.map_congr_left fun i hi => ?_
    have := List.mem_range.1 hi
    rw [List.take_append_of_le_length (by omega)]
  · rw [List.map_singleton, List.take_of_length_le (by simp), actsOn_snoc]
theorem was_none (S : FS) (k : Int) : (S.survive k).was = [actsOn S.L0 (S.A.take (upTo k S.A.length))] := rfl

/-- The document's folder in memory. -/
def RefS (w : World) (q : Nat) (S : FS) (J : Nat → Prop) : Prop := RefAt w q S.was S.n J
/-- What a method leaves. -/
def WentR (w : World) (q : Nat) (J : Nat → Prop) (S' : FS) (w' : World) : Prop := ∃ J', RefS w' q S' J' ∧ (∀ g, J' g → J g ∨ w.heap.size ≤ g) ∧ Kept (fun g => g = q) w w'

theorem refS_find {w : World} {q : Nat} {S : FS} {J : Nat → Prop} (h : RefS w q S J) (s : ByteArray) :
    Calls Tryz.prog 97 #[.pointer (some ⟨q, 0, none⟩), .string s] w fun e w' => e = .returned (.tuple #[.int .i64 (foundN S.there s.data.toList : Nat), .bool (foundB S.there s.data.toList)]) ∧ Below w.heap.size w w' := by
  have := refFind_any h s
  rwa [was_now] at this
theorem refS_names {w : World} {q : Nat} {S : FS} {J : Nat → Prop} (h : RefS w q S J) :
    Calls Tryz.prog 129 #[.pointer (some ⟨q, 0, none⟩)] w fun e w' => ∃ v, e = .returned v ∧ w'.ownsRow w.heap.size 9 1 v S.there.length ((textsOf S.there).map Value.string) ∧ Below w.heap.size w w' := by
  have := refNames_any h
  rwa [was_now] at this
theorem refS_pending {w : World} {q : Nat} {S : FS} {J : Nat → Prop} (h : RefS w q S J) :
    Calls Tryz.prog 102 #[.pointer (some ⟨q, 0, none⟩)] w fun e w' => e = .returned (.int .i64 (S.A.length : Nat)) ∧ Below w.heap.size w w' := by
  have := refPending_any h
  rwa [was_length, Nat.add_sub_cancel] at this
theorem refS_now {w : World} {q : Nat} {S : FS} {J : Nat → Prop} (h : RefS w q S J) :
    Calls Tryz.prog 101 #[.pointer (some ⟨q, 0, none⟩)] w fun e w' => ∃ v, e = .returned v ∧ (w.ownsRow 0 135 2 v S.there.length (nams S.there) ∧ ∀ g, v.ownBlock = some g → J g) ∧ Below w.heap.size w w' := by
  have := refNow_any h
  rwa [was_now] at this
theorem refS_new (w : World) : Calls Tryz.prog 44 #[] w fun e w' => ∃ q J, e = .returned (.pointer (some ⟨q, 0, none⟩)) ∧ RefS w' q FS.new J ∧ (∀ g, J g → w.heap.size ≤ g) ∧ Below w.heap.size w w' := refNew_any w

/-- An act behind the others. -/
theorem refS_act {w : World} {q n : Nat} {L0 : Names} {A : List FAct} {J : Nat → Prop} (h : RefS w q ⟨L0, A, n⟩ J) (x : FAct) {lv : Value} (hl : w.ownsRow 0 135 2 lv (x.on (actsOn L0 A)).length (nams (x.on (actsOn L0 A)))) (hr : Rising (x.on (actsOn L0 A))) (hll : (x.on (actsOn L0 A)).length ≤ 100000) (hlen : A.length ≤ 90000) :
    Calls Tryz.prog 99 #[.pointer (some ⟨q, 0, none⟩), lv] w fun e w' => e = .returned (.tuple #[]) ∧ (∃ J', RefS w' q ⟨L0, A ++ [x], n⟩ J' ∧ ∀ g, J' g → J g ∨ lv.ownBlock = some g ∨ w.heap.size ≤ g) ∧ Kept (fun g => g = q) w w' := by
  have := refAct_any h hl hr hll (by rw [was_length]; show A.length + 1 < _; omega)
  rw [← was_snoc L0 A n n x] at this
  exact this

theorem RefS.lt {w : World} {q : Nat} {S : FS} {J : Nat → Prop} (h : RefS w q S J) : q < w.heap.size ∧ J q := by
  obtain ⟨_, _, _, _, _, h4, _⟩ := h.it
  exact ⟨h.mem _ h4, h4⟩

set_option maxHeartbeats 2000000 in
set_option maxRecDepth 100000 in
theorem refS_remove {w : World} {q : Nat} {S : FS} {J : Nat → Prop} (h : RefS w q S J) (s : ByteArray) (hg : S.good) (hl : S.weight ≤ 90000) :
    Calls Tryz.prog 125 #[.pointer (some ⟨q, 0, none⟩), .string s] w fun e w' => e = .returned (.int .i64 ((S.remove s).2 : Nat)) ∧ WentR w q J (S.remove s).1 w' := by
  have Q35 := Lib.hid (refS_find h s)
  have HH := Lib.hid h
  have hthere := S.there_length
  have hrise := hg.there.rising
  obtain ⟨L0, A, n⟩ := S
  have hwl : A.length ≤ 90000 := by unfold FS.weight at hl; simp only at hl; omega
  obtain ⟨L, hL⟩ : ∃ L, FS.there ⟨L0, A, n⟩ = L := ⟨_, rfl⟩
  have hL' : actsOn L0 A = L := hL
  cases hb : foundB L s.data.toList with
  | false =>
    have hrm : FS.remove ⟨L0, A, n⟩ s = (⟨L0, A, n⟩, 9) := by unfold FS.remove; rw [hL, if_pos hb]
    rw [hrm]
    rw [hL, hb] at Q35
    have FIN : Hid (∀ W, Below w.heap.size w W → WentR w q J ⟨L0, A, n⟩ W) := Lib.hid fun W hW => ⟨J, HH.out.below hW, fun g hg => .inl hg, Kept.below hW⟩
    clear h hrm hb
    go_enter Tryz.func125, Tryz.ntmps125
    go_wp2_with (go_at_call 97; (with_reducible refine Q35.out.mono ?_); rintro e w1 ⟨rfl, h1⟩; have H1 := Lib.hid h1; clear h1)
    go_ret
    exact ⟨rfl, FIN.out _ H1.out⟩
  | true =>
    have hrm : FS.remove ⟨L0, A, n⟩ s = (⟨L0, A ++ [.remove s], n⟩, 0) := by unfold FS.remove; rw [hL, if_neg (by rw [hb]; simp)]
    rw [hrm]
    rw [hL, hb] at Q35
    have Q39 : Hid (∀ W, Below w.heap.size w W → Calls Tryz.prog 101 #[.pointer (some ⟨q, 0, none⟩)] W fun e w' => ∃ v, e = .returned v ∧ Nams W v L ∧ Below W.heap.size W w') := Lib.hid fun W hW => (refS_now (HH.out.below hW)).mono fun e w' ⟨v, he, h1, h2⟩ => ⟨v, he, by have := nams_of_owns h1.1; rwa [hL] at this, h2⟩
    have Q41 : Hid (∀ W v, Nams W v L → Calls Tryz.prog 139 #[v, .string s] W fun e w' => ∃ v', e = .returned v' ∧ w'.ownsRow W.heap.size 135 2 v' (withoutT L s.data.toList).length (nams (withoutT L s.data.toList)) ∧ Below W.heap.size W w') := Lib.hid fun W v hv => refWithout_any L v s W hv (by rw [← hL]; omega)
    have Q37 : Hid (∀ W v', Below w.heap.size w W → W.ownsRow w.heap.size 135 2 v' (withoutT L s.data.toList).length (nams (withoutT L s.data.toList)) → Calls Tryz.prog 99 #[.pointer (some ⟨q, 0, none⟩), v'] W fun e w' => e = .returned (.tuple #[]) ∧ WentR w q J ⟨L0, A ++ [.remove s], n⟩ w') := Lib.hid fun W v' hW hv => by
      have hon : (FAct.remove s).on (actsOn L0 A) = withoutT L s.data.toList := by rw [hL']; rfl
      refine (refS_act (HH.out.below hW) (.remove s) (lv := v') (by rw [hon]; exact owns_weaken hv (Nat.zero_le _)) (by rw [hon, ← hL]; exact hrise.without _) (by rw [hon]; have := without_length L s.data.toList; rw [← hL] at this ⊢; omega) hwl).mono ?_
      rintro e w' ⟨rfl, ⟨J', k1, k2⟩, k3⟩
      have hz := hW.size
      refine ⟨rfl, J', k1, fun g hg => ?_, (Kept.below hW).trans k3 fun g hg => .inl hg⟩
      rcases k2 g hg with k | k | k
      · exact .inl k
      · exact .inr (hv.lt g k).1
      · exact .inr (by omega)
    clear h hrm hb hL hL' hrise
    go_enter Tryz.func125, Tryz.ntmps125
    go_wp2_with (first
      | (go_at_call 97; (with_reducible refine Q35.out.mono ?_); rintro e w1 ⟨rfl, h1⟩; have H1 := Lib.hid h1; clear h1)
      | (go_at_call 101; (with_reducible refine (Q39.out _ H1.out).mono ?_); rintro e w2 ⟨v, rfl, n2, h2⟩; have H2 := Lib.hid (Below.next H1.out h2); have N2 := Lib.hid (n2.below h2); clear n2 h2)
      | (go_at_call 139; (with_reducible refine (Q41.out _ _ N2.out).mono ?_); rintro e w3 ⟨v3, rfl, o3, h3⟩; have H3 := Lib.hid (Below.next H2.out h3); have O3 := Lib.hid (owns_weaken o3 H2.out.size); clear o3 h3)
      | (go_at_call 99; (with_reducible refine (Q37.out _ _ H3.out O3.out).mono ?_); rintro e w4 ⟨rfl, h4⟩; have H4 := Lib.hid h4; clear h4))
    go_ret
    exact ⟨rfl, H4.out⟩
end Go.Proofs.YtmmoilmfpiclgaaGreat.Fld
namespace Go.Proofs.YtmmoilmfpiclgaaGreat.Fld
open Go.RowKit Go.Shelf
attribute [local instance] alone

set_option maxHeartbeats 2000000 in
set_option maxRecDepth 100000 in
theorem refS_rename {w : World} {q : Nat} {S : FS} {J : Nat → Prop} (h : RefS w q S J) (s t : ByteArray) (ht : t.size ≤ nameMax) (hg : S.good) (hl : S.weight ≤ 90000) :
    Calls Tryz.prog 124 #[.pointer (some ⟨q, 0, none⟩), .string s, .string t] w fun e w' => e = .returned (.int .i64 ((S.rename s t).2 : Nat)) ∧ WentR w q J (S.rename s t).1 w' := by
  have Q35 := Lib.hid (refS_find h s)
  have Q36 := Lib.hid (refMay_any t ht)
  have HH := Lib.hid h
  have hthere := S.there_length
  have hrise := hg.there.rising
  obtain ⟨L0, A, n⟩ := S
  have hwl : A.length ≤ 90000 := by unfold FS.weight at hl; simp only at hl; omega
  obtain ⟨L, hL⟩ : ∃ L, FS.there ⟨L0, A, n⟩ = L := ⟨_, rfl⟩
  have hL' : actsOn L0 A = L := hL
  have FIN0 : Hid (∀ W, Below w.heap.size w W → WentR w q J ⟨L0, A, n⟩ W) := Lib.hid fun W hW => ⟨J, HH.out.below hW, fun g hg => .inl hg, Kept.below hW⟩
  obtain ⟨m, hm⟩ : ∃ m, foundN L s.data.toList = m := ⟨_, rfl⟩
  rw [hL, hm] at Q35
  cases hmay : mayB t with
  | false =>
    have hrm : FS.rename ⟨L0, A, n⟩ s t = (⟨L0, A, n⟩, 2) := by unfold FS.rename; rw [if_pos hmay]
    rw [hrm]
    rw [hmay] at Q36
    clear h hrm hmay
    go_enter Tryz.func124, Tryz.ntmps124
    go_wp2_with (first
      | (go_at_call 97; (with_reducible refine Q35.out.mono ?_); rintro e w1 ⟨rfl, h1⟩; have H1 := Lib.hid h1; clear h1)
      | (go_at_call 98; (with_reducible refine (Q36.out _).mono ?_); rintro e w2 ⟨rfl, rfl⟩))
    go_ret
    exact ⟨rfl, FIN0.out _ H1.out⟩
  | true =>
    rw [hmay] at Q36
    cases hb : foundB L s.data.toList with
    | false =>
      have hrm : FS.rename ⟨L0, A, n⟩ s t = (⟨L0, A, n⟩, 9) := by unfold FS.rename; rw [if_neg (by rw [hmay]; simp), hL, if_pos hb]
      rw [hrm]
      rw [hb] at Q35
      clear h hrm hb hmay
      go_enter Tryz.func124, Tryz.ntmps124
      go_wp2_with (first
        | (go_at_call 97; (with_reducible refine Q35.out.mono ?_); rintro e w1 ⟨rfl, h1⟩; have H1 := Lib.hid h1; clear h1)
        | (go_at_call 98; (with_reducible refine (Q36.out _).mono ?_); rintro e w2 ⟨rfl, rfl⟩))
      go_ret
      exact ⟨rfl, FIN0.out _ H1.out⟩
    | true =>
      have hrm : FS.rename ⟨L0, A, n⟩ s t = (⟨L0, A ++ [.rename s t m], n⟩, 0) := by unfold FS.rename; rw [if_neg (by rw [hmay]; simp), hL, if_neg (by rw [hb]; simp), hm]
      rw [hrm]
      rw [hb] at Q35
      obtain ⟨L2, hL2⟩ : ∃ L2, withoutT L s.data.toList = L2 := ⟨_, rfl⟩
      have hr2 : Rising L2 := by rw [← hL2, ← hL]; exact hrise.without _
      have hl2 : L2.length ≤ 90000 := by have := without_length L s.data.toList; rw [hL2, ← hL] at this; omega
      have Q39 : Hid (∀ W, Below w.heap.size w W → Calls Tryz.prog 101 #[.pointer (some ⟨q, 0, none⟩)] W fun e w' => ∃ v, e = .returned v ∧ Nams W v L ∧ Below W.heap.size W w') := Lib.hid fun W hW => (refS_now (HH.out.below hW)).mono fun e w' ⟨v, he, h1, h2⟩ => ⟨v, he, by have := nams_of_owns h1.1; rwa [hL] at this, h2⟩
      have Q41 : Hid (∀ W v, Nams W v L → Calls Tryz.prog 139 #[v, .string s] W fun e w' => ∃ v', e = .returned v' ∧ Nams w' v' L2 ∧ Below W.heap.size W w') := Lib.hid fun W v hv => (refWithout_any L v s W hv (by rw [← hL]; omega)).mono fun e w' ⟨v', he, h1, h2⟩ => ⟨v', he, by rw [hL2] at h1; exact nams_of_owns h1, h2⟩
      have Q38 : Hid (∀ W v, Nams W v L2 → Calls Tryz.prog 100 #[v, .agg #[.string t, .int .i64 (m : Nat)]] W fun e w' => ∃ v', e = .returned v' ∧ w'.ownsRow W.heap.size 135 2 v' (withT L2 t.data.toList m).length (nams (withT L2 t.data.toList m)) ∧ Below W.heap.size W w') := Lib.hid fun W v hv => by
        have := refWith_any L2 hr2 v (t.data.toList, m) W hv (by omega)
        rw [show strO (t.data.toList, m).1 = t from strO_of t] at this
        exact this
      have Q37 : Hid (∀ W v', Below w.heap.size w W → W.ownsRow w.heap.size 135 2 v' (withT L2 t.data.toList m).length (nams (withT L2 t.data.toList m)) → Calls Tryz.prog 99 #[.pointer (some ⟨q, 0, none⟩), v'] W fun e w' => e = .returned (.tuple #[]) ∧ WentR w q J ⟨L0, A ++ [.rename s t m], n⟩ w') := Lib.hid fun W v' hW hv => by
        have hon : (FAct.rename s t m).on (actsOn L0 A) = withT L2 t.data.toList m := by rw [hL', ← hL2]; rfl
        refine (refS_act (HH.out.below hW) (.rename s t m) (lv := v') (by rw [hon]; exact owns_weaken hv (Nat.zero_le _)) (by rw [hon]; exact hr2.with _ _) (by rw [hon]; have := with_length (L := L2) t.data.toList m; omega) hwl).mono ?_
        rintro e w' ⟨rfl, ⟨J', k1, k2⟩, k3⟩
        have hz := hW.size
        refine ⟨rfl, J', k1, fun g hg => ?_, (Kept.below hW).trans k3 fun g hg => .inl hg⟩
        rcases k2 g hg with k | k | k
        · exact .inl k
        · exact .inr (hv.lt g k).1
        · exact .inr (by omega)
      clear h hrm hb hL hL' hrise hmay hL2 hr2
      go_enter Tryz.func124, Tryz.ntmps124
      go_wp2_with (first
        | (go_at_call 97; (with_reducible refine Q35.out.mono ?_); rintro e w1 ⟨rfl, h1⟩; have H1 := Lib.hid h1; clear h1)
        | (go_at_call 98; (with_reducible refine (Q36.out _).mono ?_); rintro e w1' ⟨rfl, rfl⟩)
        | (go_at_call 101; (with_reducible refine (Q39.out _ H1.out).mono ?_); rintro e w2 ⟨v, rfl, n2, h2⟩; have H2 := Lib.hid (Below.next H1.out h2); have N2 := Lib.hid (n2.below h2); clear n2 h2)
        | (go_at_call 139; (with_reducible refine (Q41.out _ _ N2.out).mono ?_); rintro e w3 ⟨v3, rfl, n3, h3⟩; have H3 := Lib.hid (Below.next H2.out h3); have N3 := Lib.hid n3; clear n3 h3)
        | (go_at_call 100; (with_reducible refine (Q38.out _ _ N3.out).mono ?_); rintro e w5 ⟨v5, rfl, o5, h5⟩; have H5 := Lib.hid (Below.next H3.out h5); have O5 := Lib.hid (owns_weaken o5 H3.out.size); clear o5 h5)
        | (go_at_call 99; (with_reducible refine (Q37.out _ _ H5.out O5.out).mono ?_); rintro e w4 ⟨rfl, h4⟩; have H4 := Lib.hid h4; clear h4))
      go_ret
      exact ⟨rfl, H4.out⟩
end Go.Proofs.YtmmoilmfpiclgaaGreat.Fld
namespace Go.Proofs.YtmmoilmfpiclgaaGreat.Fld
open Go.RowKit Go.Shelf
attribute [local instance] alone

/-- Another greatest number. -/
theorem ref_count {w : World} {q n m : Nat} {Ws : List Names} {J : Nat → Prop} (h : RefAt w q Ws n J) (hm : m ≤ 100000) : RefAt (w.setCell ⟨q, 1, none⟩ (.int .i64 (m : Int))) q Ws m J := by
  obtain ⟨av, vs, h1, h2, h3, h4, h5, h6⟩ := h.it
  have hne : ∀ g, (∃ cs T, w.heap[g]? = some (.cells cs T (0, 0)) ∧ T ≠ 129) → g ≠ q := fun g ⟨cs, T, hg, ht⟩ e => by
    subst e
    rw [h1] at hg
    cases hg
    exact ht rfl
  refine ⟨⟨av, vs, setCell_heap h1 1 _, owns_same h2 fun g hg => heap_setCell_ne ?_, h3, h4, h5, fun i hi => ?_⟩, h.some, h.rising, ⟨h.small.1, hm, h.small.2.2⟩, fun g hg => Nat.lt_of_lt_of_le (h.mem g hg) (grown_setCell _ _ _ _).size⟩
  · obtain ⟨cs, hcs⟩ := owns_mem h2 hg
    exact hne g ⟨cs, 131, hcs, by decide⟩
  · obtain ⟨v, k1, k2, k3⟩ := h6 i hi
    refine ⟨v, k1, owns_same k2 fun g hg => heap_setCell_ne ?_, k3⟩
    obtain ⟨cs, hcs⟩ := owns_mem k2 hg
    exact hne g ⟨cs, 135, hcs, by decide⟩

theorem ref_cells {w : World} {q n : Nat} {Ws : List Names} {J : Nat → Prop} (h : RefAt w q Ws n J) : w.cell? ⟨q, 1, none⟩ = some (.int .i64 (n : Int)) ∧ w.frozen? ⟨q, 1, none⟩ = false := by
  obtain ⟨av, vs, h1, _⟩ := h.it
  exact ⟨by rw [cell_of_row w q 1 _ 129 (0, 0) h1]; rfl, by simp [World.frozen?, h1]⟩

set_option maxHeartbeats 2000000 in
set_option maxRecDepth 100000 in
theorem refS_create {w : World} {q : Nat} {S : FS} {J : Nat → Prop} (h : RefS w q S J) (t : ByteArray) (ht : t.size ≤ nameMax) (hg : S.good) (hl : S.weight ≤ 90000) :
    Calls Tryz.prog 42 #[.pointer (some ⟨q, 0, none⟩), .string t] w fun e w' => e = .returned (.tuple #[.int .i64 ((S.create t).2.1 : Nat), .int .i64 ((S.create t).2.2 : Nat)]) ∧ WentR w q J (S.create t).1 w' := by
  have Q35 := Lib.hid (refS_find h t)
  have Q36 := Lib.hid (refMay_any t ht)
  have HH := Lib.hid h
  have hthere := S.there_length
  have hrise := hg.there.rising
  obtain ⟨L0, A, n⟩ := S
  have hwl : A.length ≤ 90000 ∧ n ≤ 90000 := by unfold FS.weight at hl; simp only at hl; omega
  obtain ⟨L, hL⟩ : ∃ L, FS.there ⟨L0, A, n⟩ = L := ⟨_, rfl⟩
  have hL' : actsOn L0 A = L := hL
  have FIN0 : Hid (∀ W, Below w.heap.size w W → WentR w q J ⟨L0, A, n⟩ W) := Lib.hid fun W hW => ⟨J, HH.out.below hW, fun g hg => .inl hg, Kept.below hW⟩
  obtain ⟨m, hm⟩ : ∃ m, foundN L t.data.toList = m := ⟨_, rfl⟩
  rw [hL, hm] at Q35
  cases hmay : mayB t with
  | false =>
    have hrm : FS.create ⟨L0, A, n⟩ t = (⟨L0, A, n⟩, 0, 2) := by unfold FS.create; rw [if_pos hmay]
    rw [hrm]
    rw [hmay] at Q36
    clear h hrm hmay
    go_enter Tryz.func42, Tryz.ntmps42
    go_wp2_with (first
      | (go_at_call 97; (with_reducible refine Q35.out.mono ?_); rintro e w1 ⟨rfl, h1⟩; have H1 := Lib.hid h1; clear h1)
      | (go_at_call 98; (with_reducible refine (Q36.out _).mono ?_); rintro e w2 ⟨rfl, rfl⟩))
    go_ret2
    exact ⟨rfl, FIN0.out _ H1.out⟩
  | true =>
    rw [hmay] at Q36
    cases hb : foundB L t.data.toList with
    | true =>
      have hrm : FS.create ⟨L0, A, n⟩ t = (⟨L0, A, n⟩, 0, 8) := by unfold FS.create; rw [if_neg (by rw [hmay]; simp), hL, if_pos hb]
      rw [hrm]
      rw [hb] at Q35
      clear h hrm hb hmay
      go_enter Tryz.func42, Tryz.ntmps42
      go_wp2_with (first
        | (go_at_call 97; (with_reducible refine Q35.out.mono ?_); rintro e w1 ⟨rfl, h1⟩; have H1 := Lib.hid h1; clear h1)
        | (go_at_call 98; (with_reducible refine (Q36.out _).mono ?_); rintro e w2 ⟨rfl, rfl⟩))
      go_ret2
      exact ⟨rfl, FIN0.out _ H1.out⟩
    | false =>
      have hrm : FS.create ⟨L0, A, n⟩ t = (⟨L0, A ++ [.create t (n + 1)], n + 1⟩, n + 1, 0) := by unfold FS.create; rw [if_neg (by rw [hmay]; simp), hL, if_neg (by rw [hb]; simp)]
      rw [hrm]
      rw [hb] at Q35
      obtain ⟨n1, hn1⟩ : ∃ n1, n + 1 = n1 := ⟨_, rfl⟩
      rw [hn1]
      have hn1i : (n : Int) + 1 = (n1 : Int) := by omega
      have hr2 : Rising L := by rw [← hL]; exact hrise
      have hLl : L.length ≤ 90000 := by rw [← hL]; omega
      have HP : Hid (∀ W, Below w.heap.size w W → W.cell? ⟨q, 1, none⟩ = some (.int .i64 (n : Int)) ∧ W.frozen? ⟨q, 1, none⟩ = false) := Lib.hid fun W hW => ref_cells (HH.out.below hW)
      have HS : Hid (∀ w1, Below w.heap.size w w1 → RefS (w1.setCell ⟨q, 1, none⟩ (.int .i64 (n1 : Int))) q ⟨L0, A, n1⟩ J ∧ Kept (fun g => g = q) w (w1.setCell ⟨q, 1, none⟩ (.int .i64 (n1 : Int)))) := Lib.hid fun w1 hb1 => ⟨ref_count (HH.out.below hb1) (by omega), (Kept.below hb1).trans (Kept.grown (grown_setCell _ _ _ _) (M := fun g => g = q) (fun g hg => by cases hg; rfl)) (fun g hg => .inl hg)⟩
      have Q39 : Hid (∀ W, RefS W q ⟨L0, A, n1⟩ J → Calls Tryz.prog 101 #[.pointer (some ⟨q, 0, none⟩)] W fun e w' => ∃ v, e = .returned v ∧ Nams W v L ∧ Below W.heap.size W w') := Lib.hid fun W hW => (refS_now hW).mono fun e w' ⟨v, he, h1, h2⟩ => ⟨v, he, by have := nams_of_owns h1.1; rwa [show FS.there ⟨L0, A, n1⟩ = L from hL'] at this, h2⟩
      have Q38 : Hid (∀ W v, Nams W v L → Calls Tryz.prog 100 #[v, .agg #[.string t, .int .i64 (n1 : Nat)]] W fun e w' => ∃ v', e = .returned v' ∧ w'.ownsRow W.heap.size 135 2 v' (withT L t.data.toList n1).length (nams (withT L t.data.toList n1)) ∧ Below W.heap.size W w') := Lib.hid fun W v hv => by
        have := refWith_any L hr2 v (t.data.toList, n1) W hv (by omega)
        rw [show strO (t.data.toList, n1).1 = t from strO_of t] at this
        exact this
      have Q37 : Hid (∀ W v', RefS W q ⟨L0, A, n1⟩ J → Kept (fun g => g = q) w W → W.ownsRow w.heap.size 135 2 v' (withT L t.data.toList n1).length (nams (withT L t.data.toList n1)) → Calls Tryz.prog 99 #[.pointer (some ⟨q, 0, none⟩), v'] W fun e w' => e = .returned (.tuple #[]) ∧ WentR w q J ⟨L0, A ++ [.create t n1], n1⟩ w') := Lib.hid fun W v' hW hk hv => by
        have hon : (FAct.create t n1).on (actsOn L0 A) = withT L t.data.toList n1 := by rw [hL']; rfl
        refine (refS_act hW (.create t n1) (lv := v') (by rw [hon]; exact owns_weaken hv (Nat.zero_le _)) (by rw [hon]; exact hr2.with _ _) (by rw [hon]; have := with_length (L := L) t.data.toList n1; omega) hwl.1).mono ?_
        rintro e w' ⟨rfl, ⟨J', k1, k2⟩, k3⟩
        have hz := hk.size
        refine ⟨rfl, J', k1, fun g hg => ?_, hk.trans k3 fun g hg => .inl hg⟩
        rcases k2 g hg with k | k | k
        · exact .inl k
        · exact .inr (hv.lt g k).1
        · exact .inr (by omega)
      clear h hrm hb hL hrise hmay hL' hr2
      go_enter Tryz.func42, Tryz.ntmps42
      go_upto_region 7 with (first
        | (go_at_call 97; (with_reducible refine Q35.out.mono ?_); rintro e w1 ⟨rfl, h1⟩; have H1 := Lib.hid h1; obtain ⟨c1, f1⟩ := HP.out _ h1; clear h1)
        | (go_at_call 98; (with_reducible refine (Q36.out _).mono ?_); rintro e w1' ⟨rfl, rfl⟩))
      obtain ⟨hs2, hk2⟩ := HS.out _ H1.out
      clear c1 f1
      generalize w1.setCell ⟨q, 1, none⟩ (.int .i64 (n1 : Int)) = W2 at hs2 hk2 ⊢
      have HS2 : Hid (∀ W, Below W2.heap.size W2 W → RefS W q ⟨L0, A, n1⟩ J ∧ Kept (fun g => g = q) w W) := Lib.hid fun W hW => ⟨hs2.below hW, hk2.trans (Kept.below hW) fun g hg => .inl hg⟩
      have hz2 := hk2.size
      obtain ⟨k1, _⟩ := ref_cells hs2
      clear hs2 hk2 HS HP Q35 Q36
      go_region_with (first
        | (go_at_call 101; (with_reducible refine (Q39.out _ (HS2.out _ (below_drewO (Below.refl _ _))).1).mono ?_); rintro e w3 ⟨v, rfl, n3, h3⟩; obtain ⟨ad3, cp3, hv3, _⟩ := nams_cell n3; subst hv3; have H3 := Lib.hid (Below.next (below_drewO (Below.refl _ _)) h3); have N3 := Lib.hid (n3.below h3); obtain ⟨k3, _⟩ := ref_cells (HS2.out _ H3.out).1; clear n3 h3)
        | (go_at_call 100; (with_reducible refine (Q38.out _ _ N3.out).mono ?_); rintro e w5 ⟨v5, rfl, o5, h5⟩; obtain ⟨ad5, cp5, hv5⟩ := row_shape o5; subst hv5; have H5 := Lib.hid (Below.next H3.out h5); have O5 := Lib.hid (owns_weaken (base' := w.heap.size) o5 (Nat.le_trans hz2 H3.out.size)); clear o5 h5)
        | (go_at_call 99; (with_reducible refine (Q37.out _ _ (HS2.out _ H5.out).1 (HS2.out _ H5.out).2 O5.out).mono ?_); rintro e w4 ⟨rfl, ⟨J', r4, q4, p4⟩⟩; obtain ⟨k4, _⟩ := ref_cells r4; have H4 := Lib.hid (And.intro r4 (And.intro q4 p4)); clear r4 q4 p4))
      all_goals
        go_wp2
        go_ret2
        exact ⟨rfl, J', H4.out⟩
end Go.Proofs.YtmmoilmfpiclgaaGreat.Fld
namespace Go.Proofs.YtmmoilmfpiclgaaGreat.Fld
open Go.RowKit Go.Shelf
attribute [local instance] alone

set_option maxHeartbeats 2000000 in
set_option maxRecDepth 100000 in
theorem refS_survive {w : World} {q : Nat} {S : FS} {J : Nat → Prop} (h : RefS w q S J) (k : Int) (hk1 : -1000000 ≤ k) (hk2 : k ≤ 1000000) (hl : S.weight ≤ 90000) :
    Calls Tryz.prog 43 #[.pointer (some ⟨q, 0, none⟩), .int .i64 k] w fun e w' => e = .returned (.tuple #[]) ∧ WentR w q J (S.survive k) w' := by
  have Q19 := Lib.hid (refS_pending h)
  have hwl : S.A.length ≤ 90000 ∧ S.n ≤ 90000 := by unfold FS.weight at hl; omega
  obtain ⟨kk, hkk⟩ : ∃ kk, upTo k S.A.length = kk := ⟨_, rfl⟩
  have hkl : kk ≤ S.A.length := by rw [← hkk]; unfold upTo; omega
  have hkki : max 0 (min k (S.A.length : Int)) = (kk : Int) := by rw [← hkk]; unfold upTo; omega
  have hwas : (S.survive k).was = [actsOn S.L0 (S.A.take kk)] := by rw [was_none, hkk]
  obtain ⟨av, vs, h1, h2, h3, h4, h5, h6⟩ := h.it
  have hs := h.some
  obtain ⟨g, c, rfl, hc1, hc2, hlt, hcell⟩ := was_cells h2 h3 hs
  have hwlen := was_length S
  have hn5 := h.small.2.1
  obtain ⟨v, k1, k2, k3⟩ := h6 kk (by omega)
  have kc := hcell kk (by omega) v k1
  obtain ⟨pf, hpf⟩ : ∃ pf, S.A.length = pf := ⟨_, rfl⟩
  rw [hpf] at Q19 hkl hkki hwl hwlen
  have c0 : w.cell? ⟨q, 0, none⟩ = some (.slice (some ⟨g, 0, none⟩) S.was.length c) := by rw [cell_of_row w q 0 _ 129 (0, 0) h1]; rfl
  rw [hwlen] at c0
  have hql : q < w.heap.size := (Array.getElem?_eq_some_iff.1 h1).1
  have f0 : w.frozen? ⟨q, 0, none⟩ = false := by simp [World.frozen?, h1]
  have HP : Hid (∀ W, Below w.heap.size w W → W.cell? ⟨q, 0, none⟩ = some (.slice (some ⟨g, 0, none⟩) (pf + 1) c) ∧ W.frozen? ⟨q, 0, none⟩ = false ∧ W.cell? ⟨g, kk, none⟩ = some v) := Lib.hid fun W hW => ⟨by rw [hW.cell (p := ⟨q, 0, none⟩) hql]; exact c0, by rw [hW.frozen (p := ⟨q, 0, none⟩) hql]; exact f0, by rw [hW.cell (p := ⟨g, kk, none⟩) hlt]; exact kc⟩
  have hr := h.rising kk (by omega)
  have hll := h.small.2.2 kk (by omega)
  have hle : S.was[kk]'(by omega) = actsOn S.L0 (S.A.take kk) := was_at S kk (by omega)
  have hm := h.mem
  obtain ⟨l, hle2⟩ : ∃ l, S.was[kk]'(by omega) = l := ⟨_, rfl⟩
  rw [hle2] at k2 hr hll hle
  obtain ⟨ad, cp, rfl⟩ := row_shape k2
  have FIN : Hid (∀ w1, Below w.heap.size w w1 → WentR w q J (S.survive k) ((w1.alloc (.cells #[.slice ad l.length cp] 131)).setCell ⟨q, 0, none⟩ (.slice (some ⟨w1.heap.size, 0, none⟩) 1 1))) := Lib.hid fun w1 hb => by
    have hz := hb.size
    have hb2 := below_alloc' (o := .cells #[.slice ad l.length cp] 131) hb
    have hn := (MapKept.heap_alloc w1 (.cells #[.slice ad l.length cp] 131)).1
    have hz2 : (w1.alloc (.cells #[.slice ad l.length cp] 131)).heap.size = w1.heap.size + 1 := by simp
    have hq2 := (hb2.block q hql).trans h1
    have hq3 := setCell_heap hq2 0 (.slice (some ⟨w1.heap.size, 0, none⟩) 1 1)
    have hsz := (grown_setCell (w1.alloc (.cells #[.slice ad l.length cp] 131)) q 0 (.slice (some ⟨w1.heap.size, 0, none⟩) 1 1)).size
    have hnq : ∀ u, (Value.slice ad l.length cp).ownBlock = some u → u ≠ q := fun u hu e => by
      subst e
      obtain ⟨cs, hcs⟩ := owns_mem k2 hu
      rw [h1] at hcs
      cases hcs
    refine ⟨fun u => u = q ∨ u = w1.heap.size ∨ (Value.slice ad l.length cp).ownBlock = some u, ?_, fun u hu => ?_, (Kept.below hb2).trans (Kept.grown (grown_setCell _ _ _ _) (M := fun g => g = q) (fun g hg => by cases hg; rfl)) (fun g hg => .inl hg)⟩
    · show RefAt _ q (S.survive k).was S.n _
      rw [hwas, ← hle]
      refine ref_one (v := .slice ad l.length cp) hq3 ((heap_setCell_ne (by omega)).trans hn) (owns_same (owns_same k2 fun u hu => hb2.block u (k2.lt u hu).2) fun u hu => heap_setCell_ne (hnq u hu)) ⟨.inl rfl, .inr (.inl rfl), fun u hu => .inr (.inr hu)⟩ hr hll hn5 fun u hu => ?_
      rcases hu with rfl | rfl | hu
      · omega
      · omega
      · have := (k2.lt u hu).2
        omega
    · rcases hu with rfl | rfl | hu
      · exact .inl h4
      · exact .inr hz
      · exact .inl (k3 u hu)
  clear c0 f0 kc h1 h2 h3 h4 h5 h6 hle hle2 k1 k2 k3 hr hll hm hwas hcell
  go_enter Tryz.func43, Tryz.ntmps43
  go_wp2_with (go_at_call 102; (with_reducible refine Q19.out.mono ?_); rintro e w1 ⟨rfl, b1⟩; obtain ⟨c0, f0, kc⟩ := HP.out _ b1; obtain ⟨d0, g0, _⟩ := HP.out _ (below_alloc' (o := .cells #[.slice ad l.length cp] 131) b1); have B1 := Lib.hid b1; clear b1)
  exact bodyPost_end (v := .tuple #[]) (by simp [results, Tryz.results43, go_sem]) rfl ⟨rfl, FIN.out _ B1.out⟩
end Go.Proofs.YtmmoilmfpiclgaaGreat.Fld

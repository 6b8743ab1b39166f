/-
  The document's lists: a list without a name, a list with one at its place.
-/
import Derived.Test.YtfjgefnklelnnaaORow
namespace Go.Proofs.Ytfjgefnklelnnaa
open Go.RowKit Go.Shelf

theorem without_snoc (l : Names) (k : Nat) (h : k < l.length) (s : List UInt8) : withoutT (l.take (k + 1)) s = if (nam l k).1 = s then withoutT (l.take k) s else withoutT (l.take k) s ++ [nam l k] := by
  rw [List.take_succ_eq_append_getElem h, nam_lt h]
  unfold withoutT
  rw [List.filter_append]
  by_cases hs : l[k].1 = s
  · rw [if_pos hs]; simp [hs]
  · rw [if_neg hs]; simp [hs]

set_option maxHeartbeats 1000000 in
set_option maxRecDepth 100000 in
theorem refWithout_any (l : Names) (v : Value) (s : ByteArray) (w : World) (hv : Nams w v l) (hlen : l.length ≤ 900000) :
    Calls Try.prog 41 #[v, .string s] w fun e w' => ∃ v', e = .returned v' ∧ w'.ownsRow w.heap.size 68 2 v' (withoutT l s.data.toList).length (nams (withoutT l s.data.toList)) ∧ Below w.heap.size w w' := by
  obtain ⟨ad, cp, rfl, hc⟩ := nams_cell hv
  have HC : Hid (∀ i, i < l.length → ∃ b o, ad = some ⟨b, o, none⟩ ∧ NamAt w b (o + i * 2) (nam l i)) := Lib.hid hc
  clear hc hv
  go_enter Try.func41, Try.ntmps41
  go_wp2
  go_loopw [5, 6] (fun s5 s6 wr => ∃ k : Nat, k ≤ l.length ∧ s6 = .int .i64 k ∧ wr.ownsRow w.heap.size 68 2 s5 (withoutT (l.take k) s.data.toList).length (nams (withoutT (l.take k) s.data.toList)) ∧ Below w.heap.size w wr) (fun _ s6 _ => l.length - (intOf s6).toNat)
  case atStart => exact ⟨0, Nat.zero_le _, rfl, ownsN_nil w _, Below.refl _ _⟩
  case round =>
    obtain ⟨k, hk, rfl, hown, hb⟩ := hrel
    by_cases hlt : k < l.length
    · obtain ⟨b, o, rfl, hE⟩ := HC.out k hlt
      obtain ⟨h1, h2⟩ := hE.below hb
      have hsn := without_snoc l k hlt s.data.toList
      have hle := Nat.le_trans (without_length (l.take k) s.data.toList) (List.length_take_le _ _)
      obtain ⟨y, hy⟩ : ∃ y, nam l k = y := ⟨_, rfl⟩
      rw [hy] at h1 h2 hsn
      obtain ⟨O, hO⟩ : ∃ O, withoutT (l.take k) s.data.toList = O := ⟨_, rfl⟩
      rw [hO] at hsn hown hle
      have e1 : decide ((k : Int) < (l.length : Int)) = true := decide_eq_true (by omega)
      have hyk : (strO y.1).toList = y.1 := by rw [Lib.toList_data, strO_data]
      have hsk : s.toList = s.data.toList := Lib.toList_data s
      have hne : b ≠ wr.heap.size := Nat.ne_of_lt (block_lt_of_cell h1)
      clear hy hO hE
      by_cases hq : y.1 = s.data.toList
      · rw [if_pos hq] at hsn
        have hqb : (y.1 == s.data.toList) = true := beq_iff_eq.2 hq
        have HS := Lib.hid hsn
        clear hsn hq
        go_wp2_with fail
        exact ⟨⟨k + 1, by omega, by go_num, by rw [HS.out]; exact hown, hb⟩, by simp [intOf]; omega⟩
      · rw [if_neg hq] at hsn
        have hqb : (y.1 == s.data.toList) = false := by simp [hq]
        have HS := Lib.hid hsn
        have HO1 := Lib.hid (hown.alloc (.cells #[.string (strO y.1), .int .i64 (y.2 : Int)] 68))
        have HO2 := Lib.hid (nams_single (w := wr) (x := y))
        clear hsn hq
        go_wp2_with (at_builtin; refine wpList_append_nams rfl _ _ rfl rfl w.heap.size _ _ O [y] rfl rfl HO1.out HO2.out (by simp; omega) (by have := hb.size; simp; omega) ?_; intro v' w' o1 g1)
        exact ⟨⟨k + 1, by omega, by go_num, by rw [HS.out]; exact o1, (below_alloc' hb).grown g1 (by have := hb.size; simp; omega) (fun j hj => (hown.lt j hj).1)⟩, by simp [intOf]; omega⟩
    · obtain rfl : k = l.length := by omega
      rw [List.take_length] at hown
      have e1 : decide ((l.length : Int) < (l.length : Int)) = false := by simp
      go_wp2_with fail
      go_ret
      exact ⟨_, rfl, hown, hb⟩

/-- How many names stand ahead of a text. -/
def placeN (l : Names) (k : List UInt8) : Nat := (lesserT l k).length
theorem lesser_take {l : Names} (h : Rising l) (k : List UInt8) : ∀ i, i < l.length → ((nam l i).1 < k ↔ i < placeN l k) := by
  induction l with
  | nil => intro i hi; simp at hi
  | cons p r ih =>
    obtain ⟨h1, h2⟩ := List.pairwise_cons.1 h
    intro i hi
    unfold placeN lesserT
    by_cases hp : p.1 < k
    · rw [List.filter_cons_of_pos (by simpa using hp), List.length_cons]
      cases i with
      | zero => exact ⟨fun _ => by omega, fun _ => hp⟩
      | succ i =>
        have := ih h2 i (by simpa using hi)
        show (nam r i).1 < k ↔ _
        rw [this]
        unfold placeN lesserT
        omega
    · have hz : lesserT (p :: r) k = [] := filter_all_false fun x hx => decide_eq_false fun hx' => by
        rcases List.mem_cons.1 hx with rfl | hx
        · exact hp hx'
        · exact hp (lt_trans' (h1 x hx) hx')
      unfold lesserT at hz
      rw [hz]
      refine ⟨fun hx => ?_, fun hx => by simp at hx⟩
      exfalso
      cases i with
      | zero => exact hp hx
      | succ i =>
        have hi' : i < r.length := by simpa using hi
        have hx' : (nam r i).1 < k := hx
        exact hp (lt_trans' (h1 _ (nam_mem hi')) hx')
theorem lesser_is {l : Names} (h : Rising l) (k : List UInt8) : lesserT l k = l.take (placeN l k) := by
  induction l with
  | nil => rfl
  | cons p r ih =>
    obtain ⟨h1, h2⟩ := List.pairwise_cons.1 h
    by_cases hp : p.1 < k
    · unfold placeN
      rw [show lesserT (p :: r) k = p :: lesserT r k from List.filter_cons_of_pos (by simpa using hp)]
      have := ih h2
      unfold placeN at this
      rw [List.length_cons, List.take_succ_cons, ← this]
    · unfold placeN
      rw [show lesserT (p :: r) k = [] from filter_all_false fun x hx => decide_eq_false fun hx' => by
        rcases List.mem_cons.1 hx with rfl | hx
        · exact hp hx'
        · exact hp (lt_trans' (h1 x hx) hx')]
      rfl
theorem greater_snoc (l : Names) (k : Nat) (h : k < l.length) (s : List UInt8) : greaterT (l.take (k + 1)) s = if s < (nam l k).1 then greaterT (l.take k) s ++ [nam l k] else greaterT (l.take k) s := by
  rw [List.take_succ_eq_append_getElem h, nam_lt h]
  unfold greaterT
  rw [List.filter_append]
  by_cases hs : s < l[k].1
  · rw [if_pos hs]; simp [hs]
  · rw [if_neg hs]; simp [hs]
theorem greater_length (l : Names) (k : List UInt8) : (greaterT l k).length ≤ l.length := List.length_filter_le ..

set_option maxHeartbeats 1000000 in
set_option maxRecDepth 100000 in
theorem refWith_any (l : Names) (hl : Rising l) (v : Value) (x : List UInt8 × Nat) (w : World) (hv : Nams w v l) (hlen : l.length ≤ 400000) :
    Calls Try.prog 38 #[v, .agg #[.string (strO x.1), .int .i64 (x.2 : Int)]] w fun e w' => ∃ v', e = .returned v' ∧ w'.ownsRow w.heap.size 68 2 v' (withT l x.1 x.2).length (nams (withT l x.1 x.2)) ∧ Below w.heap.size w w' := by
  obtain ⟨ad, cp, rfl, hc⟩ := nams_cell hv
  have HC : Hid (∀ i, i < l.length → ∃ b o, ad = some ⟨b, o, none⟩ ∧ NamAt w b (o + i * 2) (nam l i)) := Lib.hid hc
  obtain ⟨W0, hW0⟩ : ∃ W0, w.alloc (.cells #[.string (strO x.1), .int .i64 (x.2 : Int)] 68) = W0 := ⟨_, rfl⟩
  have HB0 : Hid (Below w.heap.size w W0) := Lib.hid (by rw [← hW0]; exact below_alloc' (Below.refl _ w))
  have hz0 : W0.heap.size = w.heap.size + 1 := by rw [← hW0]; simp
  have HX : Hid (∀ W, Below W0.heap.size W0 W → W.cell? ⟨w.heap.size, 0, none⟩ = some (.string (strO x.1)) ∧ W.cell? ⟨w.heap.size, 1, none⟩ = some (.int .i64 (x.2 : Int))) := Lib.hid fun W hW => by
    have h0 : NamAt W0 w.heap.size 0 x := by
      have := nams_single (w := w) (x := x)
      rw [hW0] at this
      obtain ⟨ad', c', hv', hx'⟩ := this
      obtain ⟨b, o, ha, hn⟩ := hx' 0 (by simp)
      cases hv'
      cases ha
      exact hn
    have := h0.below hW
    exact this
  obtain ⟨pl, hpl⟩ : ∃ pl, placeN l x.1 = pl := ⟨_, rfl⟩
  have hple : pl ≤ l.length := by rw [← hpl]; exact List.length_filter_le ..
  have HPL : Hid (∀ i, i < l.length → ((nam l i).1 < x.1 ↔ i < pl)) := Lib.hid (by rw [← hpl]; exact lesser_take hl x.1)
  clear hc hv
  go_enter Try.func38, Try.ntmps38
  go_upto_block 0 with fail
  try rw [hW0]
  clear hW0
  go_cut [5] from 6 to 30 (fun s5 wx => wx.ownsRow W0.heap.size 68 2 s5 (l.take pl).length (nams (l.take pl)) ∧ Below W0.heap.size W0 wx)
  case first =>
    go_wp2_with fail
    go_loopw [5, 6] (fun s5 s6 wr => ∃ k : Nat, k ≤ pl ∧ s6 = .int .i64 k ∧ wr.ownsRow W0.heap.size 68 2 s5 (l.take k).length (nams (l.take k)) ∧ Below W0.heap.size W0 wr) (fun _ s6 _ => l.length - (intOf s6).toNat)
    case atStart => exact ⟨0, Nat.zero_le _, rfl, ownsN_nil W0 _, Below.refl _ _⟩
    case round =>
      obtain ⟨k, hk, rfl, hown, hb⟩ := hrel
      have HOW := Lib.hid hown
      have HB := Lib.hid hb
      obtain ⟨x0, x1⟩ := HX.out _ hb
      clear hown hb
      by_cases hlt : k < l.length
      · have e1 : decide ((k : Int) < (l.length : Int)) = true := decide_eq_true (by omega)
        have e1' : decide (k < l.length) = true := decide_eq_true hlt
        obtain ⟨b, o, rfl, hE⟩ := HC.out k hlt
        obtain ⟨h1, h2⟩ := hE.below (Below.next HB0.out HB.out)
        have hpk := HPL.out k hlt
        have hsn : l.take (k + 1) = l.take k ++ [nam l k] := by rw [List.take_succ_eq_append_getElem hlt, nam_lt hlt]
        obtain ⟨y, hy⟩ : ∃ y, nam l k = y := ⟨_, rfl⟩
        rw [hy] at h1 h2 hpk hsn
        have gx := fun d os => cell_regrown x0 d os
        have gc1 := fun d os => cell_regrown h1 d os
        have HE := Lib.hid hE
        clear hE hy
        by_cases hkp : k < pl
        · have hls : Op.bytesLess y.1 x.1 = true := by
            rw [bytesLess_eq]
            exact decide_eq_true (hpk.2 hkp)
          have HS := Lib.hid hsn
          clear hpk hsn
          go_upto_region 3 with fail
          refine wp_region_quiet_below (by kernel_rfl) (by kernel_rfl) ?_
          repeat (go_big_quiet_step (fail))
          refine wpQuiet_nil ?_
          intro _ hw'
          obtain ⟨⟨dq, osq⟩, hw''⟩ := hw'
          subst hw''
          have HB7 := Lib.hid (below_regrown wr dq osq)
          generalize Sort.grow (redrawn wr dq) osq = w7 at HB7 ⊢
          have HOW7 := Lib.hid (owns_same HOW.out fun g hg => HB7.out.block g (HOW.out.lt g hg).2)
          have hb7 := Below.next HB.out HB7.out
          have HO1 := Lib.hid (HOW7.out.alloc (.cells #[.string (strO y.1), .int .i64 (y.2 : Int)] 68))
          have HO2 := Lib.hid (nams_single (w := w7) (x := y))
          have k1 : w7.cell? ⟨b, o + k * 2, none⟩ = some (.string (strO y.1)) := by rw [HB7.out.cell (p := ⟨b, o + k * 2, none⟩) (block_lt_of_cell h1)]; exact h1
          have k2 : w7.cell? ⟨b, o + k * 2 + 1, none⟩ = some (.int .i64 (y.2 : Int)) := by rw [HB7.out.cell (p := ⟨b, o + k * 2 + 1, none⟩) (block_lt_of_cell h2)]; exact h2
          have hne : b ≠ w7.heap.size := by have := block_lt_of_cell k1; exact Nat.ne_of_lt this
          have htl : (l.take k).length ≤ k := List.length_take_le _ _
          clear gx gc1 h1 h2 x0 x1
          go_wp2_with (at_builtin; refine wpList_append_nams rfl _ _ rfl rfl W0.heap.size _ _ (l.take k) [y] rfl rfl HO1.out HO2.out (by simp; omega) (by have := hb7.size; simp; omega) ?_; intro v' w' o1 g1)
          exact ⟨⟨k + 1, by omega, by go_num, by rw [HS.out]; exact o1, (below_alloc' hb7).grown g1 (by have := hb7.size; simp; omega) (fun j hj => (HOW7.out.lt j hj).1)⟩, by simp [intOf]; omega⟩
        · have hls : Op.bytesLess y.1 x.1 = false := by
            rw [bytesLess_eq]
            exact decide_eq_false fun h => hkp (hpk.1 h)
          obtain rfl : k = pl := by omega
          clear hpk hsn
          go_upto_region 3 with fail
          refine wp_region_quiet_below (by kernel_rfl) (by kernel_rfl) ?_
          repeat (go_big_quiet_step (fail))
          refine wpQuiet_nil ?_
          intro _ hw'
          obtain ⟨⟨dq, osq⟩, hw''⟩ := hw'
          subst hw''
          have HB7 := Lib.hid (below_regrown wr dq osq)
          generalize Sort.grow (redrawn wr dq) osq = w7 at HB7 ⊢
          have HOW7 := Lib.hid (owns_same HOW.out fun g hg => HB7.out.block g (HOW.out.lt g hg).2)
          clear gx gc1 h1 h2 x0 x1
          go_wp2_with fail
          go_meet
          exact ⟨HOW7.out, Below.next HB.out HB7.out⟩
      · have e1 : decide ((k : Int) < (l.length : Int)) = false := decide_eq_false (by omega)
        have e1' : decide (k < l.length) = false := decide_eq_false hlt
        obtain rfl : k = pl := by omega
        go_upto_region 3 with fail
        refine wp_region_quiet_below (by kernel_rfl) (by kernel_rfl) ?_
        repeat (go_big_quiet_step (fail))
        refine wpQuiet_nil ?_
        intro _ hw'
        obtain ⟨⟨dq, osq⟩, hw''⟩ := hw'
        subst hw''
        have HB7 := Lib.hid (below_regrown wr dq osq)
        generalize Sort.grow (redrawn wr dq) osq = w7 at HB7 ⊢
        have HOW7 := Lib.hid (owns_same HOW.out fun g hg => HB7.out.block g (HOW.out.lt g hg).2)
        clear x0 x1
        go_wp2_with fail
        go_meet
        exact ⟨HOW7.out, Below.next HB.out HB7.out⟩
  case rest =>
  have HOW := Lib.hid hcut.1
  have HB := Lib.hid hcut.2
  clear hcut
  obtain ⟨x0, x1⟩ := HX.out _ HB.out
  have HO1 := Lib.hid (HOW.out.alloc (.cells #[.string (strO x.1), .int .i64 (x.2 : Int)] 68))
  have HO2 := Lib.hid (nams_single (w := wc) (x := x))
  have htl : (l.take pl).length ≤ l.length := by rw [List.length_take]; omega
  have hzc := HB.out.size
  go_upto_block 2 with (at_builtin; refine wpList_append_nams rfl _ _ rfl rfl W0.heap.size _ _ (l.take pl) [x] rfl rfl HO1.out HO2.out (by simp; omega) (by simp; omega) ?_; intro v8 w8 o8 g8; have HO8 := Lib.hid o8; have HG8 := Lib.hid g8; clear o8 g8)
  have HB8 : Hid (Below W0.heap.size W0 w8) := Lib.hid ((below_alloc' HB.out).grown HG8.out (by simp; omega) (fun j hj => (HO1.out.lt j hj).1))
  obtain ⟨A, hA⟩ : ∃ A, l.take pl ++ [x] = A := ⟨_, rfl⟩
  have hAl : A.length ≤ l.length + 1 := by rw [← hA]; simp; omega
  rw [hA] at HO8
  clear HO1 HO2 HG8 HOW HB x0 x1
  go_wp2_with fail
  go_loopw [5, 7] (fun s5 s7 wr => ∃ k : Nat, k ≤ l.length ∧ s7 = .int .i64 k ∧ wr.ownsRow W0.heap.size 68 2 s5 (A ++ greaterT (l.take k) x.1).length (nams (A ++ greaterT (l.take k) x.1)) ∧ Below W0.heap.size W0 wr) (fun _ s7 _ => l.length - (intOf s7).toNat)
  case atStart => exact ⟨0, Nat.zero_le _, rfl, by simpa [greaterT] using HO8.out, HB8.out⟩
  case round =>
    obtain ⟨k, hk, rfl, hown, hb⟩ := hrel
    have HOW := Lib.hid hown
    have HB := Lib.hid hb
    obtain ⟨x0, x1⟩ := HX.out _ hb
    clear hown hb HO8 HB8
    by_cases hlt : k < l.length
    · have e1 : decide ((k : Int) < (l.length : Int)) = true := decide_eq_true (by omega)
      have e1' : decide (k < l.length) = true := decide_eq_true hlt
      obtain ⟨b, o, rfl, hE⟩ := HC.out k hlt
      obtain ⟨h1, h2⟩ := hE.below (Below.next HB0.out HB.out)
      have hsn := greater_snoc l k hlt x.1
      have hgl := Nat.le_trans (greater_length (l.take k) x.1) (List.length_take_le _ _)
      obtain ⟨y, hy⟩ : ∃ y, nam l k = y := ⟨_, rfl⟩
      rw [hy] at h1 h2 hsn
      obtain ⟨G, hG⟩ : ∃ G, greaterT (l.take k) x.1 = G := ⟨_, rfl⟩
      rw [hG] at hsn hgl HOW
      clear hE hy hG
      by_cases hq : x.1 < y.1
      · rw [if_pos hq] at hsn
        have HS := Lib.hid hsn
        have hls : Op.bytesLess y.1 x.1 = false := by rw [bytesLess_eq]; exact decide_eq_false fun h => lt_irrefl' _ (lt_trans' hq h)
        have hls2 : (y.1 == x.1) = false := by
          rw [beq_eq_false_iff_ne]
          intro e
          rw [e] at hq
          exact lt_irrefl' _ hq
        have gx := fun d os => cell_regrown x0 d os
        have gc1 := fun d os => cell_regrown h1 d os
        clear hsn hq
        go_upto_region 10 with fail
        refine wp_region_quiet_below (by kernel_rfl) (by kernel_rfl) ?_
        repeat (go_big_quiet_step (fail))
        refine wpQuiet_nil ?_
        intro _ hw'
        obtain ⟨⟨dq, osq⟩, hw''⟩ := hw'
        subst hw''
        have HB7 := Lib.hid (below_regrown wr dq osq)
        generalize Sort.grow (redrawn wr dq) osq = w7 at HB7 ⊢
        have HOW7 := Lib.hid (owns_same HOW.out fun g hg => HB7.out.block g (HOW.out.lt g hg).2)
        have hb7 := Below.next HB.out HB7.out
        have HO1 := Lib.hid (HOW7.out.alloc (.cells #[.string (strO y.1), .int .i64 (y.2 : Int)] 68))
        have HO2 := Lib.hid (nams_single (w := w7) (x := y))
        have k1 : w7.cell? ⟨b, o + k * 2, none⟩ = some (.string (strO y.1)) := by rw [HB7.out.cell (p := ⟨b, o + k * 2, none⟩) (block_lt_of_cell h1)]; exact h1
        have k2 : w7.cell? ⟨b, o + k * 2 + 1, none⟩ = some (.int .i64 (y.2 : Int)) := by rw [HB7.out.cell (p := ⟨b, o + k * 2 + 1, none⟩) (block_lt_of_cell h2)]; exact h2
        have hne : b ≠ w7.heap.size := by have := block_lt_of_cell k1; exact Nat.ne_of_lt this
        clear gx gc1 h1 h2 x0 x1
        go_wp2_with (at_builtin; refine wpList_append_nams rfl _ _ rfl rfl W0.heap.size _ _ (A ++ G) [y] rfl rfl HO1.out HO2.out (by simp; omega) (by have := hb7.size; simp; omega) ?_; intro v' w' o1 g1)
        exact ⟨⟨k + 1, by omega, by go_num, by rw [HS.out, ← List.append_assoc]; exact o1, (below_alloc' hb7).grown g1 (by have := hb7.size; simp; omega) (fun j hj => (HOW7.out.lt j hj).1)⟩, by simp [intOf]; omega⟩
      · rw [if_neg hq] at hsn
        have HS := Lib.hid hsn
        have hls : Op.bytesLess y.1 x.1 = true ∨ (Op.bytesLess y.1 x.1 = false ∧ (y.1 == x.1) = true) := by
          rw [bytesLess_eq]
          by_cases he : y.1 = x.1
          · exact .inr ⟨decide_eq_false (by rw [he]; exact lt_irrefl' _), beq_iff_eq.2 he⟩
          · rcases lt_total' _ _ he with h | h
            · exact .inl (decide_eq_true h)
            · exact absurd h hq
        rcases hls with hls | ⟨hls, hls2⟩
        all_goals
          have gx := fun d os => cell_regrown x0 d os
          have gc1 := fun d os => cell_regrown h1 d os
          go_upto_region 10 with fail
          refine wp_region_quiet_below (by kernel_rfl) (by kernel_rfl) ?_
          repeat (go_big_quiet_step (fail))
          refine wpQuiet_nil ?_
          intro _ hw'
          obtain ⟨⟨dq, osq⟩, hw''⟩ := hw'
          subst hw''
          have HB7 := Lib.hid (below_regrown wr dq osq)
          generalize Sort.grow (redrawn wr dq) osq = w7 at HB7 ⊢
          have HOW7 := Lib.hid (owns_same HOW.out fun g hg => HB7.out.block g (HOW.out.lt g hg).2)
          have hb7 := Below.next HB.out HB7.out
          clear gx gc1 h1 h2 x0 x1
          go_wp2_with fail
          exact ⟨⟨k + 1, by omega, by go_num, by rw [HS.out]; exact HOW7.out, hb7⟩, by simp [intOf]; omega⟩
    · have e1 : decide ((k : Int) < (l.length : Int)) = false := decide_eq_false (by omega)
      have e1' : decide (k < l.length) = false := decide_eq_false hlt
      obtain rfl : k = l.length := by omega
      have hfin : A ++ greaterT (l.take l.length) x.1 = withT l x.1 x.2 := by
        rw [List.take_length, ← hA, ← hpl, ← lesser_is hl]
        unfold withT
        rw [List.append_assoc]
        rfl
      rw [hfin] at HOW
      clear x0 x1
      go_wp2_with fail
      go_ret
      exact ⟨_, rfl, owns_weaken HOW.out (by omega), Below.next HB0.out HB.out⟩
end Go.Proofs.Ytfjgefnklelnnaa

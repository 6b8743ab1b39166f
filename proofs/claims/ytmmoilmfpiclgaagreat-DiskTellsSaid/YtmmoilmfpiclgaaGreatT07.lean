/-
  Files made, appended to, cut, synced: the calls.
-/
import Derived.Test.YtmmoilmfpiclgaaGreatT06
import Derived.Lib.AppendStr
set_option linter.unusedVariables false
set_option linter.unusedSimpArgs false
namespace Go.Proofs.YtmmoilmfpiclgaaGreat
open Go.RowKit Go.Shelf

theorem conv_brow (W : World) (s : ByteArray) (hs : s.size ≤ 9223372036854775807) : BRow (Lib.bytesWorld W 5 s) (.slice (some ⟨W.heap.size, 0, none⟩) s.size (grownCap W s.size 0 5)) s.data.toList := by
  have hge := grownCap_ge W s.size 0 5
  have hle := grownCap_le_maxLen W s.size 0 5 (by unfold maxLen; exact hs)
  have hsz : (Lib.bytesCells W 5 s).size = grownCap W s.size 0 5 := by
    unfold Lib.bytesCells
    rw [Array.size_append, Array.size_map, Array.size_replicate]
    show s.size + _ = _
    omega
  have hl : s.data.toList.length = s.size := ba_length s
  unfold maxLen at hle
  refine .inr ⟨W.heap.size, _, _, by rw [hl], by rw [hl]; exact hge, hle, ⟨_, Lib.bytesWorld_at_new W 5 s, hsz, fun j hj h => ?_⟩, ?_⟩
  · rw [hsz] at h
    have h1 : grownCap W s.size 0 5 ≤ j := h.1
    omega
  · unfold Lib.bytesCells bys
    rw [Array.toList_append, hl, List.take_append_of_le_length (by simp), List.take_of_length_le (by simp)]
    simp

theorem below_conv' (W : World) (s : ByteArray) : Below W.heap.size W (Lib.bytesWorld W 5 s) := below_conv W s

/-- A file that is settled. -/
theorem settled {w : World} {p : Nat} {v : Value} {R : List UInt8} {I : Nat → Prop} (ht : Trio w p v (.slice none 0 0) v) (hr : BRow w v R) (hR : R.length ≤ 100000) (hI : ∀ g, I g → g < w.heap.size ∧ g ≠ p ∧ v.ownBlock ≠ some g) :
    FileAt w p R [] (fun g => g = p ∨ v.ownBlock = some g) I := by
  refine ⟨⟨v, .slice none 0 0, v, [], ht, hr, hr, World.ownsRow_nil w 0 140 1, ⟨rfl, fun k hk => by simp at hk⟩, fun _ => ⟨rfl, List.prefix_refl _⟩, .inl rfl, fun g hg => .inr hg, fun g hg => .inr hg, fun g hg => by cases hg⟩, trivial, hR, fun g hg => ?_, fun g hg hm => ?_⟩
  · rcases hg with (rfl | hg) | hg
    · exact ht.lt
    · exact hr.own_lt g hg
    · exact (hI g hg).1
  · rcases hm with rfl | hm
    · exact (hI _ hg).2.1 rfl
    · exact (hI g hg).2.2 hm

set_option maxHeartbeats 1000000 in
set_option maxRecDepth 100000 in
theorem new_any (s : ByteArray) (w : World) (hs : s.size ≤ 100000) :
    Calls Tryz.prog 40 #[.string s] w fun e w' => ∃ p M, e = .returned (.pointer (some ⟨p, 0, none⟩)) ∧ FileAt w' p s.data.toList [] M (fun _ => False) ∧ (∀ g, M g → w.heap.size ≤ g) ∧ Below w.heap.size w w' := by
  have hcv := fun W : World => Lib.run_convert_string_bytes W 9 121 5 s Tryz.underlying9 Tryz.underlying121 Tryz.underlying5
  generalize hw1 : w.alloc (.cells #[.slice none 0 0, .slice none 0 0, .slice none 0 0] 124) = w1
  have t1 : Trio w1 w.heap.size (.slice none 0 0) (.slice none 0 0) (.slice none 0 0) := by rw [← hw1]; exact heap_alloc_new w _
  have hb1 : Below w.heap.size w w1 := by rw [← hw1]; exact below_alloc' (Below.refl _ w)
  have hz1 : w1.heap.size = w.heap.size + 1 := by rw [← hw1]; simp
  have t2 : Trio (Lib.bytesWorld w1 5 s) w.heap.size (.slice none 0 0) (.slice none 0 0) (.slice none 0 0) := ((below_conv' w1 s).block _ (by omega)).trans t1
  have r2 := conv_brow w1 s (by omega)
  have hb2 := below_conv' w1 s
  have hl : s.data.toList.length = s.size := ba_length s
  have hcv1 := hcv w1
  generalize grownCap w1 s.size 0 5 = cc at r2 hcv1
  have Q23 : Hid (Calls Tryz.prog 95 #[.pointer (some ⟨w.heap.size, 0, none⟩), .slice (some ⟨w1.heap.size, 0, none⟩) s.size cc] (Lib.bytesWorld w1 5 s) fun e w' => e = .returned (.tuple #[]) ∧ Trio w' w.heap.size (.slice (some ⟨w1.heap.size, 0, none⟩) s.size cc) (.slice none 0 0) (.slice (some ⟨w1.heap.size, 0, none⟩) s.size cc) ∧ (Lib.bytesWorld w1 5 s).grownBy w' (some w.heap.size)) := Lib.hid (settle_any t2)
  rw [hz1] at r2 hcv1 Q23
  have HR2 := Lib.hid r2
  have HB := Lib.hid (And.intro hb1 hb2)
  have hb2s := hb2.size
  rw [hz1] at hb2s
  clear hcv t1 t2 r2 hb1 hb2
  subst hw1
  go_enter Tryz.func40, Tryz.ntmps40
  go_wp2_with (go_at_call 95; (with_reducible refine Q23.out.mono ?_); rintro e w3 ⟨rfl, t3, g3⟩; have HT3 := Lib.hid t3; have HG3 := Lib.hid g3; clear t3 g3)
  go_ret
  have g3 := HG3.out
  have t3 := HT3.out
  have r3 : BRow w3 (.slice (some ⟨w.heap.size + 1, 0, none⟩) s.size cc) s.data.toList := HR2.out.same fun g hg => by
    cases hg
    exact g3.block _ (HR2.out.own_lt _ rfl) (by simp)
  refine ⟨_, _, rfl, settled t3 r3 (by omega) (fun g h => h.elim), fun g hg => ?_, ?_⟩
  · rcases hg with rfl | hg
    · exact Nat.le_refl _
    · cases hg; exact Nat.le_succ _
  · exact (Below.next HB.out.1 HB.out.2).grown g3 (by omega) (fun k hk => by cases hk; exact Nat.le_refl _)

/-- The acts behind an append. -/
def appT (A : List Do) (b : List UInt8) : List Do := if b = [] then A else A ++ [.app b]
/-- The acts behind a cut. -/
def cutT (R : List UInt8) (A : List Do) (n : Int) : List Do := if 0 ≤ n ∧ n < R.length then A ++ [.cut n.toNat] else A

/-- What a call leaves of a file: another one, in its own blocks and in new ones. -/
def Went (w : World) (p : Nat) (D : List UInt8) (A : List Do) (M I : Nat → Prop) (r : Value) (e : Ending) (w' : World) : Prop :=
  e = .returned r ∧ ∃ M' I' : Nat → Prop, FileAt w' p D A M' I' ∧ (∀ g, M' g → M g ∨ w.heap.size ≤ g) ∧ (∀ g, I' g → I g ∨ w.heap.size ≤ g) ∧ Kept M w w'

theorem strCells_bys (s : ByteArray) : Lib.strCells s = bys s.data.toList := by unfold Lib.strCells bys; simp

theorem box_at {w : World} {b : Nat} {T : TypeId} {v : Value} (h : w.heap[b]? = some (.cells #[v] T (0, 0))) : w.cell? ⟨b, 0, none⟩ = some v := by rw [cell_of_row w b 0 _ _ _ h]; rfl
theorem box_fr {w : World} {b : Nat} {T : TypeId} {v : Value} (h : w.heap[b]? = some (.cells #[v] T (0, 0))) : w.frozen? ⟨b, 0, none⟩ = false := by simp [World.frozen?, h]
theorem ne_own {w : World} {n b : Nat} {v : Value} {xs : List Value} (h : w.ownsRow (b + 1) 5 1 v n xs) : some b ≠ v.ownBlock := fun e => by have := (h.lt _ e.symm).1; omega

theorem owns_slice5 {w : World} {base n : Nat} {v : Value} {xs : List Value} (h : w.ownsRow base 5 1 v n xs) : ∃ ad c, v = .slice ad n c ∧ n ≤ c ∧ c ≤ 9223372036854775807 := by
  rcases h.2 with ⟨rfl, h0⟩ | ⟨g, cap, cur, rfl, _, _, h1, h2, _⟩
  · exact ⟨none, 0, by rw [h0], by omega, by omega⟩
  · exact ⟨_, cap, rfl, h1, by unfold maxLen at h2; exact h2⟩

/-- Texts, one behind the other. -/
def joined (l : List ByteArray) : List UInt8 := l.flatMap fun s => s.data.toList
theorem joined_take (l : List ByteArray) (k : Nat) (h : k < l.length) : joined (l.take (k + 1)) = joined (l.take k) ++ (l.getD k ⟨#[]⟩).data.toList := by
  unfold joined
  rw [List.take_succ_eq_append_getElem h, List.flatMap_append]
  simp [List.getD, h]
theorem joined_le (l : List ByteArray) (k : Nat) : (joined (l.take k)).length ≤ (joined l).length := by
  conv => rhs; rw [← List.take_append_drop k l]
  unfold joined
  rw [List.flatMap_append, List.length_append]
  omega

set_option maxHeartbeats 1000000 in
set_option maxRecDepth 100000 in
theorem append_any {w : World} {p : Nat} {D : List UInt8} {A : List Do} {M I : Nat → Prop} {l : List ByteArray} {v : Value} (h : FileAt w p D A M I) (hv : Strs w v l) (hll : l.length ≤ 1000) (hbulk : bulk D A + (joined l).length ≤ 100000) (hlen : A.length ≤ 1000) :
    Calls Tryz.prog 54 #[.pointer (some ⟨p, 0, none⟩), v] w (Went w p D (appT A (joined l)) M I (.int .i64 0)) := by
  have HF := Lib.hid h
  have hpl : p < w.heap.size := h.mem p (.inl (by obtain ⟨_, _, _, _, _, _, _, _, _, _, m0, _⟩ := h.it; exact m0))
  obtain ⟨ad, c, rfl, hc⟩ := hv
  have HC : Hid (∀ W, Below w.heap.size w W → ∀ i, i < l.length → ∃ b o, ad = some ⟨b, o, none⟩ ∧ W.cell? ⟨b, o + i, none⟩ = some (.string (l.getD i ⟨#[]⟩))) := Lib.hid fun W hW i hi => by
    obtain ⟨b, o, ha, hE⟩ := hc i hi
    exact ⟨b, o, ha, by rw [hW.cell (p := ⟨b, o + i, none⟩) (block_lt_of_cell hE)]; exact hE⟩
  obtain ⟨i0, hi, hz0, hz1, hz2⟩ := info_parts i5'
  have HI0 := Lib.hid hi
  have HZ0 := Lib.hid hz0
  have HZ1 := Lib.hid hz1
  have HZ2 := Lib.hid hz2
  have HBK := Lib.hid hbulk
  have hjl : (joined l).length ≤ 100000 := by omega
  clear h hc hi hz0 hz1 hz2 hbulk
  go_enter Tryz.func54, Tryz.ntmps54
  go_wp2
  go_loopw [12] (fun s12 wr => ∃ k : Nat, k ≤ l.length ∧ s12 = .int .i64 k ∧ Below w.heap.size w wr ∧ ∃ va, wr.heap[w.heap.size]? = some (.cells #[va] 121 (0, 0)) ∧ wr.ownsRow (w.heap.size + 1) 5 1 va (joined (l.take k)).length (bys (joined (l.take k)))) (fun s12 _ => l.length - (intOf s12).toNat)
  case atStart => exact ⟨0, Nat.zero_le _, rfl, below_alloc' (Below.refl _ w), _, heap_alloc_new w _, World.ownsRow_nil _ _ 5 1⟩
  case round =>
    obtain ⟨k, hk, rfl, hb, va, hbx, ho⟩ := hrel
    have k0 := box_at hbx
    have f0 := box_fr hbx
    have hbl : w.heap.size < wr.heap.size := (Array.getElem?_eq_some_iff.1 hbx).1
    by_cases hlt : k < l.length
    · obtain ⟨b, o, rfl, hE⟩ := HC.out wr hb k hlt
      have hsn := joined_take l k hlt
      have hle := joined_le l (k + 1)
      obtain ⟨x, hx⟩ : ∃ x, l.getD k ⟨#[]⟩ = x := ⟨_, rfl⟩
      rw [hx] at hE hsn
      obtain ⟨J, hJ⟩ : ∃ J, joined (l.take k) = J := ⟨_, rfl⟩
      rw [hJ] at hsn ho
      rw [hsn, List.length_append, ba_length] at hle
      have HS := Lib.hid hsn
      have HO := Lib.hid ho
      have HBX := Lib.hid hbx
      obtain ⟨ada, ca, rfl, hca1, hca2⟩ := owns_slice5 ho
      clear hsn ho hbx hx hJ
      go_wp2_with (first
       | (at_builtin; refine Lib.wpList_append_own_string _ rfl _ _ 121 9 rfl (w.heap.size + 1) 5 i0 Tryz.underlying121 Tryz.underlying9 HI0.out HZ0.out HZ1.out HZ2.out (.slice ada J.length ca) J.length (bys J) rfl HO.out x rfl (by unfold maxLen; omega) (by omega) (by omega) ?_; intro v' w1 o1 g1 _;
            have bx1 := (g1.block w.heap.size hbl (ne_own HO.out)).trans HBX.out; have y0 := box_at bx1; have y1 := box_fr bx1;
            obtain ⟨ada', ca', rfl, _, _⟩ := owns_slice5 o1; have HO1 := Lib.hid o1; have HG1 := Lib.hid g1; have HBX1 := Lib.hid bx1; clear o1 g1 bx1))
      have hz1 := HG1.out.size
      refine ⟨⟨k + 1, by omega, by go_num, ?_, _, cells_setCell HBX1.out 0 _, ?_⟩, by simp [intOf]; omega⟩
      · exact (hb.grown HG1.out (by omega) (fun g hg => by have := (HO.out.lt g hg).1; omega)).setCell (p := ⟨w.heap.size, 0, none⟩) (Nat.le_refl _) _
      · have h1 := HO1.out
        rw [strCells_bys, ← bys_append, ← HS.out] at h1
        have hl : (joined (l.take (k + 1))).length = J.length + x.size := by rw [HS.out, List.length_append, ba_length]
        rw [hl]
        exact owns_same h1 fun g hg => heap_setCell_ne (fun e => by have := (h1.lt g hg).1; omega)
    · obtain rfl : k = l.length := by omega
      rw [List.take_length] at ho
      obtain ⟨ada, ca, rfl, hca1, hca2⟩ := owns_slice5 ho
      have hbrow := brow_of_owns ho
      have hFr := HF.out.below hb
      by_cases hj : joined l = []
      · have hjl0 : (joined l).length = 0 := by rw [hj]; rfl
        have HP : Hid (Went w p D (appT A (joined l)) M I (.int .i64 0) (.returned (.int .i64 0)) wr) := Lib.hid ⟨rfl, M, I, by unfold appT; rw [if_pos hj]; exact hFr, fun g h => .inl h, fun g h => .inl h, Kept.below hb⟩
        rw [hjl0] at k0
        clear ho hbrow hFr hj hbx
        go_wp2
        go_ret
        exact HP.out
      · have hjp : 0 < (joined l).length := List.length_pos_iff.2 hj
        have hact : ActAt wr (.func (.func 114) #[] #[.pointer (some ⟨w.heap.size, 0, none⟩)]) (.app (joined l)) (fun g => g = w.heap.size ∨ (Value.slice ada (joined l).length ca).ownBlock = some g) := ⟨_, _, rfl, hbx, hbrow, .inl rfl, fun g hg => .inr hg⟩
        have Q26 := Lib.hid (do_app hFr hact (fun g hg => by
          rcases hg with rfl | hg
          · exact ⟨hbl, fun hm => by have := HF.out.mem _ (.inl hm); omega⟩
          · have h1 := ho.lt g hg
            exact ⟨h1.2, fun hm => by have := HF.out.mem _ (.inl hm); omega⟩) hj (by rw [bulk_app]; exact HBK.out) hlen)
        have HW : Hid (∀ e w', DoneF wr p D A (.app (joined l)) M I (fun g => g = w.heap.size ∨ (Value.slice ada (joined l).length ca).ownBlock = some g) e w' → Went w p D (appT A (joined l)) M I (.int .i64 0) (.returned (.int .i64 0)) w') := Lib.hid fun e w' ⟨_, M', h1, h2, h3⟩ => by
          refine ⟨rfl, M', _, by unfold appT; rw [if_neg hj]; exact h1, fun g hg => ?_, fun g hg => ?_, (Kept.below hb).trans h3 (fun g hg => .inl hg)⟩
          · rcases h2 g hg with h | h
            · exact .inl h
            · exact .inr (by have := hb.size; omega)
          · rcases hg with hg | rfl | hg
            · exact .inl hg
            · exact .inr (Nat.le_refl _)
            · exact .inr (by have := (ho.lt g hg).1; omega)
        clear ho hbrow hFr hj hact hbx
        go_wp2_with (go_at_call 113; (with_reducible refine Q26.out.mono ?_); intro e w1 hd; have HD := Lib.hid hd; obtain ⟨rfl, _⟩ := hd)
        go_ret
        exact HW.out _ _ HD.out
end Go.Proofs.YtmmoilmfpiclgaaGreat

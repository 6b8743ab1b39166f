/-
  The document's Sorted: the words of some rows, rising, each once.
-/
import Derived.Test.YtmciflpabnfeiaaWAppend
namespace Go.Proofs.Ytmciflpabnfeiaa
open Go.RowKit

/-- The words of some rows, rising, each once. -/
def sortedT (l : List ByteArray) : List ByteArray := l.foldl (fun acc w => if wordT w = true then insertT acc w else acc) []

theorem sorted_snoc (l : List ByteArray) (k : Nat) (h : k < l.length) : sortedT (l.take (k + 1)) = if wordT (at' l k) = true then insertT (sortedT (l.take k)) (at' l k) else sortedT (l.take k) := by
  unfold sortedT
  rw [List.take_succ_eq_append_getElem h, List.foldl_append, at_lt h]
  rfl

theorem insertT_rising {l : List ByteArray} (h : risingT l = true) (x : ByteArray) : risingT (insertT l x) = true := by
  unfold risingT
  rw [bl_insert h]
  exact Plain.insertW_rising h _

theorem bl_sorted : ∀ l acc : List ByteArray, risingT acc = true → bl (l.foldl (fun acc w => if wordT w = true then insertT acc w else acc) acc) = (bl l).foldl (fun acc w => if Plain.isWord w = true then Plain.insertW acc w else acc) (bl acc)
  | [], _, _ => rfl
  | x :: l, acc, h => by
    rw [List.foldl_cons]
    show _ = ((bl l).foldl _ (if Plain.isWord x.data.toList = true then Plain.insertW (bl acc) x.data.toList else bl acc))
    unfold wordT
    by_cases hx : Plain.isWord x.data.toList = true
    · rw [if_pos hx, if_pos hx, ← bl_insert h]
      exact bl_sorted l _ (insertT_rising h x)
    · rw [if_neg hx, if_neg hx]
      exact bl_sorted l _ h

theorem sortedT_bl (l : List ByteArray) : bl (sortedT l) = Plain.sorted (bl l) := bl_sorted l [] rfl

theorem sortedT_rising (l : List ByteArray) : risingT (sortedT l) = true := by
  unfold risingT
  rw [sortedT_bl]
  exact Plain.sorted_rising _

theorem mem_sortedT (l : List ByteArray) (x : ByteArray) : x ∈ sortedT l ↔ x ∈ l ∧ wordT x = true := by
  rw [← mem_bl, sortedT_bl, Plain.mem_sorted, mem_bl]
  rfl

theorem sortedT_length (l : List ByteArray) : (sortedT l).length ≤ l.length := by
  have : ∀ (l acc : List ByteArray), (l.foldl (fun acc w => if wordT w = true then insertT acc w else acc) acc).length ≤ acc.length + l.length := by
    intro l
    induction l with
    | nil => intro acc; simp
    | cons x l ih =>
      intro acc
      rw [List.foldl_cons, List.length_cons]
      refine Nat.le_trans (ih _) ?_
      split
      · have := insertT_length acc x
        omega
      · omega
  have h := this l []
  simp only [List.length_nil, Nat.zero_add] at h
  exact h

set_option maxHeartbeats 4000000 in
theorem refSorted_any (l : List ByteArray) (v : Value) (w : World) (hv : Strs w v l) (hl : Short l) (hlen : l.length ≤ 1000) :
    Calls Try.prog 8 #[v] w fun e w' => ∃ v', e = .returned v' ∧ RowS w' v' (sortedT l) ∧ Below w.heap.size w w' := by
  obtain ⟨adl, cl, rfl, hcl⟩ := strs_cell hv
  go_enter Try.func8, Try.ntmps8
  go_wp2
  go_loopw [3, 4, 5, 6] (fun v3 i _ _ wr => ∃ k : Nat, k ≤ l.length ∧ i = .int .i64 k ∧ RowS wr v3 (sortedT (l.take k)) ∧ Below w.heap.size w wr) (fun _ i _ _ _ => l.length - (intOf i).toNat)
  case atStart => exact ⟨0, Nat.zero_le _, rfl, rowS_nil w, Below.refl _ _⟩
  case round =>
    obtain ⟨k, hk, rfl, hrow, hb⟩ := hrel
    by_cases hlt : k < l.length
    · obtain ⟨b, o, rfl, hcell⟩ := hcl k hlt
      have hnext := sorted_snoc l k hlt
      obtain ⟨x, hx⟩ : ∃ x, x = at' l k := ⟨_, rfl⟩
      have hxz : x.size ≤ 9223372036854775807 := by rw [hx]; exact short_at hl _
      have hOl : (sortedT (l.take k)).length ≤ 1000 := Nat.le_trans (sortedT_length _) (by rw [List.length_take]; omega)
      have hOr := sortedT_rising (l.take k)
      have hOs : Short (sortedT (l.take k)) := fun s hs => hl s (List.mem_of_mem_take ((mem_sortedT _ s).1 hs).1)
      obtain ⟨O, hO⟩ : ∃ O, O = sortedT (l.take k) := ⟨_, rfl⟩
      rw [← hx] at hcell hnext
      rw [← hO] at hnext hrow hOl hOr hOs
      have hcr : ∀ w', Below w.heap.size w w' → w'.cell? ⟨b, o + k, none⟩ = some (.string x) := fun w' h => (h.cell (p := ⟨b, o + k, none⟩) (block_lt_of_cell hcell)).trans hcell
      obtain ⟨ad, c, rfl, hOc, hcm, hvO⟩ := hrow
      have q17 := refNear_rising O (.slice ad O.length c) x wr hOr hvO hOs hxz (by omega)
      have hI : insertT O x = if inT O x = true then O else O.take (placeT O x) ++ x :: O.drop (placeT O x) := rfl
      have hp := placeT_le O x
      unfold nearAns at q17
      obtain ⟨p, hp'⟩ : ∃ p, placeT O x = p := ⟨_, rfl⟩
      obtain ⟨r, hr'⟩ : ∃ r, inT O x = r := ⟨_, rfl⟩
      rw [hp', hr'] at q17
      rw [hp', hr'] at hI
      rw [hp'] at hp
      have hpc : p ≤ c := by omega
      have q25 := fun w0 => refIs_any x w0 hxz
      obtain ⟨wt, hwt⟩ : ∃ wt, wordT x = wt := ⟨_, rfl⟩
      rw [hwt] at q25 hnext
      have hcell' := hcr wr hb
      have HB := Lib.hid hb
      have HCR := Lib.hid hcr
      have HV := Lib.hid hvO
      have HOC := Lib.hid hOc
      clear hO hx hcell hcl hp' hr' hwt hOr hOs hcr hvO hb hl hv
      cases r
      · rw [if_neg (by simp)] at hI
        have HI := Lib.hid hI
        clear hI
        cases wt
        · rw [if_neg (by simp)] at hnext
          have HN := Lib.hid hnext
          clear hnext
          go_wp2_with (first
            | (go_at_call 17; go_must (with_reducible refine q17.mono ?_); rintro e wq ⟨rfl, hb1⟩; have hb2 := Below.next HB.out hb1; have hcell2 := HCR.out _ hb2)
            | (go_at_call 25; go_must (with_reducible refine (q25 _).mono ?_); rintro e w2 ⟨rfl, rfl⟩))
          exact ⟨⟨k + 1, by omega, by go_num, by rw [HN.out]; exact ⟨ad, c, rfl, HOC.out, hcm, HV.out.below hb1⟩, hb2⟩, by simp [intOf]; omega⟩
        · rw [if_pos rfl] at hnext
          have HN := Lib.hid hnext
          clear hnext
          go_wp2_with (first
            | (go_at_call 17; go_must (with_reducible refine q17.mono ?_); rintro e wq ⟨rfl, hb1⟩; have hb2 := Below.next HB.out hb1; have hcell2 := HCR.out _ hb2)
            | (go_at_call 25; go_must (with_reducible refine (q25 _).mono ?_); rintro e w2 ⟨rfl, rfl⟩))
          have hcx0 := hcell2
          have HCX := Lib.hid (fun w' (h : Below wq.heap.size wq w') => (h.cell (p := ⟨b, o + k, none⟩) (block_lt_of_cell hcx0)).trans hcx0)
          have hvq := HV.out.below hb1
          have HT := Lib.hid (fun w' (h : Below wq.heap.size wq w') => (Strs.take hvq rfl hp).below h)
          have HD := Lib.hid (fun w' (h : Below wq.heap.size wq w') => (Strs.drop hvq rfl HOC.out hp).below h)
          have hcx1 := HCX.out _ ((Below.refl _ wq).alloc (Nat.le_refl _) (.cells #[] 9))
          clear hvq hcx0
          go_region_law (first | (refine step_append_strs (w0 := wq) rfl (.tmp 31) (.tmp 34) rfl rfl (.slice (some ⟨_, 0, none⟩) 0 0) (.slice ad p c) [] (O.take p) rfl rfl (by repeat (first | (with_reducible assumption) | (with_reducible exact Below.refl _ _) | (with_reducible apply below_drew') | (with_reducible apply below_alloc'))) (by repeat (first | (with_reducible apply owns_drew') | ((with_reducible refine owns_empty ?_ ?_); (focus repeat (first | (with_reducible assumption) | (with_reducible exact Below.refl _ _) | (with_reducible apply below_drew') | (with_reducible apply below_alloc'))); (simp [World.size_alloc])) | (with_reducible apply World.ownsRow.alloc))) (HT.out _ (by repeat (first | (with_reducible assumption) | (with_reducible exact Below.refl _ _) | (with_reducible apply below_drew') | (with_reducible apply below_alloc')))) (by simp; omega) ?_; intro v1 w1 o1 g1 b1; have hcx := HCX.out _ b1) | (refine step_append_strs (w0 := wq) rfl (.tmp 35) (.tmp 40) rfl rfl v1 (.slice (some ⟨_, 0, none⟩) 1 1) ([] ++ O.take p) [x] rfl rfl (by repeat (first | (with_reducible assumption) | (with_reducible exact Below.refl _ _) | (with_reducible apply below_drew') | (with_reducible apply below_alloc'))) (by first | (with_reducible exact o1) | (with_reducible exact World.ownsRow.alloc o1 _)) (by first | (with_reducible exact strs_one rfl) | exact Strs.grown (by repeat (first | (with_reducible apply strs_drew') | ((with_reducible refine strs_one ?_); simp) | (with_reducible apply strs_alloc'))) g1 (by simp [Value.ownBlock])) (by simp; omega) ?_; intro v2 w2 o2 g2 b2) | (refine step_append_strs (w0 := wq) rfl (.tmp 41) (.tmp 44) rfl rfl v2 (.slice (if c = p then ad else Option.map (fun x => x.add p) ad) (O.length - p) (c - p)) ([] ++ O.take p ++ [x]) (O.drop p) rfl rfl (by repeat (first | (with_reducible assumption) | (with_reducible exact Below.refl _ _) | (with_reducible apply below_drew') | (with_reducible apply below_alloc'))) (by first | (with_reducible exact o2) | (with_reducible exact World.ownsRow.alloc o2 _)) (HD.out _ (by repeat (first | (with_reducible assumption) | (with_reducible exact Below.refl _ _) | (with_reducible apply below_drew') | (with_reducible apply below_alloc')))) (by simp; omega) ?_; intro v3 w3 o3 g3 b3))
          all_goals go_wp2
          all_goals exact ⟨⟨k + 1, by omega, by go_num, by rw [HN.out, HI.out]; have := rowS_owns o3; simpa using this, Below.next hb2 b3⟩, by simp [intOf]; omega⟩
      · rw [if_pos rfl] at hI
        have HI := Lib.hid hI
        clear hI
        have hn2 : sortedT (l.take (k + 1)) = O := by
          rw [hnext]
          split
          · exact HI.out
          · rfl
        have HN := Lib.hid hn2
        clear hnext hn2
        go_wp2_with (first
          | (go_at_call 17; go_must (with_reducible refine q17.mono ?_); rintro e wq ⟨rfl, hb1⟩; have hb2 := Below.next HB.out hb1; have hcell2 := HCR.out _ hb2)
          | (go_at_call 25; go_must (with_reducible refine (q25 _).mono ?_); rintro e w2 ⟨rfl, rfl⟩))
        exact ⟨⟨k + 1, by omega, by go_num, by rw [HN.out]; exact ⟨ad, c, rfl, HOC.out, hcm, HV.out.below hb1⟩, hb2⟩, by simp [intOf]; omega⟩
    · have hke : k = l.length := by omega
      rw [hke, List.take_length] at hrow
      clear hcl hke
      obtain ⟨ad, c, rfl, h1, h2, h3⟩ := hrow
      go_wp2
      go_ret
      exact ⟨_, rfl, ⟨ad, c, rfl, h1, h2, h3⟩, hb⟩
end Go.Proofs.Ytmciflpabnfeiaa

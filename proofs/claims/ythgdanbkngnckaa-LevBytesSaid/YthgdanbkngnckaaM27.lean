/-
  LevBytes' walk.
-/
import Derived.Test.YthgdanbkngnckaaM25
set_option linter.unusedVariables false
set_option linter.unusedSimpArgs false
namespace Go.Proofs.Ythgdanbkngnckaa
open Go.RowKit Go.Shelf Said

theorem index_dec (s : ByteArray) (c : UInt8) : decide (0 ≤ Lib.indexByte s.data.toList c) = decide (c ∈ s.data.toList) := by
  by_cases h : 0 ≤ Lib.indexByte s.data.toList c
  · rw [decide_eq_true h, decide_eq_true (index_in h)]
  · rw [decide_eq_false h, decide_eq_false (index_out h)]
theorem one_str (W : World) (c : UInt8) : (convert 38 9 (.slice (some ⟨W.heap.size, 0, none⟩) 1 1)).run Try.prog (W.alloc (.cells #[.int .u8 (c.toNat : Int)] 5)) = .ok (.string ⟨#[c]⟩) (W.alloc (.cells #[.int .u8 (c.toNat : Int)] 5)) := by
  have h := byts_str (w := W.alloc (.cells #[.int .u8 (c.toNat : Int)] 5)) (v := .slice (some ⟨W.heap.size, 0, none⟩) 1 1) (l := [c.toNat]) ⟨_, 1, rfl, fun i hi => ⟨W.heap.size, 0, rfl, by
    have : i = 0 := by simpa using hi
    subst this
    simp [go_sem]⟩⟩ (by simp) (fun i => by
      have := c.toNat_lt
      cases i <;> simp [List.getD]
      omega) _ Try.underlying9
  rw [h, show bin [c.toNat] = ⟨#[c]⟩ from bin_map [c]]

/-- The bytes that are told of a state that a text leads to are few. -/
theorem told_few {q t : List UInt8} {k : Nat} (hk : k ≤ 3) (o : UInt8) (ho : o ∉ q) : (tellsT q k (capL k (rowT q t)) o).length ≤ 7 := by
  have hn : (tellsT q k (capL k (rowT q t)) o).Nodup := (tellsT_rising _ _ _ _).imp fun h e => by subst e; omega
  have h := sub_len (tellsT q k (capL k (rowT q t)) o) ((List.range 7).map fun d => q.getD (t.length + d - 3) 0) hn fun x hx => by
    obtain ⟨i, hi, hq, hr⟩ := leads_in ho ((tellsT_mem _ _ _ _ _).1 hx).2
    rw [capL_at k (by rw [rowT_length]; omega), rowT_at (by omega)] at hr
    have h1 := lev_length (q.take i) t
    rw [List.length_take, Nat.min_eq_left (by omega)] at h1
    have h2 : lev (q.take i) t ≤ k := by unfold cap at hr; omega
    refine List.mem_map.2 ⟨i + 3 - t.length, List.mem_range.2 (by omega), ?_⟩
    rw [show t.length + (i + 3 - t.length) - 3 = i by omega]
    exact hq
  simpa using h

set_option maxHeartbeats 8000000 in
set_option maxRecDepth 100000 in
theorem levBytes_walk (Q Wt : ByteArray) (K : Int) (w : World) (hK : -128 ≤ K ∧ K ≤ 127) :
    Calls Try.prog 7 #[askA Q Wt K] w fun e w' => e = .returned (.bool true) ∧ Below w.heap.size w w' := by
  obtain ⟨k, hk, hbd⟩ := bound_any K hK
  have QBd := Lib.hid hbd
  have QF : Hid (∀ (s : ByteArray) W, Calls Try.prog 9 #[.string s, .int .i64 60] W fun e w' => e = .returned (.string (fewT s 60)) ∧ Below W.heap.size W w') := Lib.hid fun s W => (few_any s 60 (by omega) W).mono fun e w' h => ⟨h.1, h.2 ▸ Below.refl _ _⟩
  have HK := Lib.hid hk
  clear hbd hK hk
  unfold askA
  have HB0 := Lib.hid (below_alloc w (.cells #[.string Q, .string Wt, .int .i8 K] 24))
  have HC0 : Hid ((w.alloc (.cells #[.string Q, .string Wt, .int .i8 K] 24)).cell? ⟨w.heap.size, 0, none⟩ = some (.string Q) ∧ (w.alloc (.cells #[.string Q, .string Wt, .int .i8 K] 24)).cell? ⟨w.heap.size, 1, none⟩ = some (.string Wt) ∧ (w.alloc (.cells #[.string Q, .string Wt, .int .i8 K] 24)).cell? ⟨w.heap.size, 2, none⟩ = some (.int .i8 K)) := Lib.hid ⟨by simp [go_sem], by simp [go_sem], by simp [go_sem]⟩
  go_enter Try.func7, Try.ntmps7
  obtain ⟨W0, hW0⟩ : ∃ W0, W0 = w.alloc (.cells #[.string Q, .string Wt, .int .i8 K] 24) := ⟨_, rfl⟩
  rw [← hW0] at HB0 HC0
  have QW := Lib.hid (works_any W0)
  go_upto_region 3 with (rw [← hW0]; go_at_call 20; (with_reducible refine QW.out.mono ?_); rintro e w1 ⟨rfl, hB⟩; have H1 := Lib.hid hB; clear hB)
  obtain ⟨q, hq⟩ : ∃ q, fewT Q 60 = q := ⟨_, rfl⟩
  obtain ⟨t, ht⟩ : ∃ t, fewT Wt 60 = t := ⟨_, rfl⟩
  have HQ : Hid (q.size ≤ 60) := Lib.hid (by rw [← hq, fewT_size]; omega)
  have HT : Hid (t.size ≤ 60) := Lib.hid (by rw [← ht, fewT_size]; omega)
  have HX : Hid (∀ W, Below w1.heap.size w1 W → W.cell? ⟨w.heap.size, 0, none⟩ = some (.string Q) ∧ W.cell? ⟨w.heap.size, 1, none⟩ = some (.string Wt) ∧ W.cell? ⟨w.heap.size, 2, none⟩ = some (.int .i8 K)) := Lib.hid fun W hb => by
    have hB := Below.next H1.out hb
    exact ⟨by rw [hB.cell (block_lt_of_cell HC0.out.1)]; exact HC0.out.1, by rw [hB.cell (block_lt_of_cell HC0.out.2.1)]; exact HC0.out.2.1, by rw [hB.cell (block_lt_of_cell HC0.out.2.2)]; exact HC0.out.2.2⟩
  refine Said.region (by kernel_rfl) (by kernel_rfl) (by kernel_rfl) [.is (.pointer (some ⟨w.heap.size, 0, none⟩)), .is (.string Q), .is (.string q), .is (.pointer (some ⟨w.heap.size, 1, none⟩)), .is (.string Wt), .is (.string t), .is (.string q), .is (.string t)] ?_
  simp only [List.toList_toArray]
  iterate 2 (
    refine sq_pure (by rfl) (fun W hb _ => ?_) ?_
    · obtain ⟨y1, y2, y3⟩ := HX.out W hb
      go_simp
    simp only [Act.put, List.setIfInBounds_toArray, List.set_cons_zero, List.set_cons_succ])
  refine sq_call (f := 9) (args := #[.string Q, .int .i64 60]) (by rfl) (fun W => by go_simp) (fun W hb _ => by rw [← hq]; exact QF.out Q W) ?_
  simp only [Act.put, List.setIfInBounds_toArray, List.set_cons_zero, List.set_cons_succ]
  iterate 2 (
    refine sq_pure (by rfl) (fun W hb _ => ?_) ?_
    · obtain ⟨y1, y2, y3⟩ := HX.out W hb
      go_simp
    simp only [Act.put, List.setIfInBounds_toArray, List.set_cons_zero, List.set_cons_succ])
  refine sq_call (f := 9) (args := #[.string Wt, .int .i64 60]) (by rfl) (fun W => by go_simp) (fun W hb _ => by rw [← ht]; exact QF.out Wt W) ?_
  simp only [Act.put, List.setIfInBounds_toArray, List.set_cons_zero, List.set_cons_succ]
  iterate 2 (
    refine sq_pure (by rfl) (fun W hb _ => ?_) ?_
    · obtain ⟨y1, y2, y3⟩ := HX.out W hb
      go_simp
    simp only [Act.put, List.setIfInBounds_toArray, List.set_cons_zero, List.set_cons_succ])
  refine sq_end (fun w2 hb2 hK2 => ?_)
  obtain ⟨y1, y2, y3⟩ := HX.out w2 hb2
  have H2 := Lib.hid (Below.next HB0.out (Below.next H1.out hb2))
  clear hK2 hb2 hq ht HX QF HB0 HC0 H1 QW hW0
  have QN : Hid (∀ W, Calls Try.prog 10 #[.string q, .int .i64 (k : Int)] W fun e w' => e = .returned (.pointer (some ⟨W.heap.size, 0, none⟩)) ∧ AutoAt w' W.heap.size q k ∧ Below W.heap.size W w' ∧ W.heap.size < w'.heap.size) := Lib.hid fun W => new_any q k W (by have := HQ.out; omega) HK.out
  go_upto_region 7 with (first
    | (go_at_call 12; (with_reducible refine (QBd.out Q Wt w2).mono ?_); rintro e wb ⟨rfl, hB⟩; have Hb := Lib.hid (Below.next H2.out hB); clear hB)
    | (go_at_call 10; (with_reducible refine (QN.out wb).mono ?_); rintro e w3 ⟨rfl, hA, hB, hz⟩; have HA := Lib.hid hA; have H3 := Lib.hid (Below.next Hb.out hB); clear hA hB hz))
  obtain ⟨p, hp⟩ : ∃ p, p = wb.heap.size := ⟨_, rfl⟩
  rw [← hp] at HA ⊢
  clear hp QN QBd y1 y2 y3 Hb H2
  have HQ3 : Hid (q.size ≤ 300) := Lib.hid (by have := HQ.out; omega)
  have QS : Hid (∀ W, Below w3.heap.size w3 W → Calls Try.prog 13 #[.pointer (some ⟨p, 0, none⟩)] W fun e w' => e = .returned (.string (bin (startL q.data.toList k))) ∧ Below w3.heap.size w3 w') := Lib.hid fun W hb => (start_st HA.out hb HK.out (by have := HQ.out; omega)).mono fun e w' h => ⟨h.1, Below.next hb h.2⟩
  have QR : Hid (∀ W, Below w3.heap.size w3 W → Calls Try.prog 18 #[.pointer (some ⟨p, 0, none⟩), .string (bin (startL q.data.toList k)), .slice (some ⟨W.heap.size, 0, none⟩) 1 1] (W.alloc (.cells #[.string t] 9)) fun e w' => e = .returned (.string (bin (capL k (rowT q.data.toList t.data.toList)))) ∧ Below w3.heap.size w3 w') := Lib.hid fun W hb => (read_one HA.out hb HK.out HQ3.out (startL_is _ _) (by have := HT.out; omega)).mono fun e w' h => ⟨h.1.trans (by rw [readL_start]), Below.next hb h.2⟩
  have hfew := told_few (q := q.data.toList) (t := t.data.toList) HK.out
  have hri := row_is q.data.toList t.data.toList k
  obtain ⟨r, hr⟩ : ∃ r, capL k (rowT q.data.toList t.data.toList) = r := ⟨_, rfl⟩
  rw [hr] at QR hfew hri
  have HI := Lib.hid hri
  have HF := Lib.hid hfew
  clear hr hfew hri
  have QB : Hid (∀ W, Below w3.heap.size w3 W → Calls Try.prog 24 #[.pointer (some ⟨p, 0, none⟩), .string (bin r)] W fun e w' => Told W q.data.toList k r e w') := Lib.hid fun W hb => by
    have hn := nums_of HI.out HK.out
    have h := bytes_any (s := bin r) (HA.out.below hb) HK.out (by have := HQ.out; omega) (by rw [hn]; exact HI.out) (fun o ho => by rw [hn]; have := HF.out o ho; omega)
    rw [hn] at h
    exact h
  go_upto_region 10 with (first
    | (go_at_call 13; (with_reducible refine (QS.out _ (Below.refl _ _)).mono ?_); rintro e w4 ⟨rfl, hB⟩; have H4 := Lib.hid hB; clear hB)
    | (go_at_call 18; (with_reducible refine (QR.out _ H4.out).mono ?_); rintro e w5 ⟨rfl, hB⟩; have H5 := Lib.hid hB; clear hB)
    | (go_at_call 24; (with_reducible refine (QB.out _ H5.out).mono ?_); rintro e w6 ⟨v, o, rfl, ho, hrow, hB⟩; have HO := Lib.hid ho; have HR := Lib.hid hrow; have H6 := Lib.hid (Below.next H5.out hB); clear hB ho hrow))
  obtain ⟨L, hL⟩ : ∃ L, tellsT q.data.toList k r o = L := ⟨_, rfl⟩
  have hmem : ∀ c, c ∈ L ↔ TellsB q.data.toList k r o c := fun c => by rw [← hL]; exact tellsT_mem _ _ _ _ c
  have hris : L.Pairwise (fun a b => a.toNat < b.toNat) := by rw [← hL]; exact tellsT_rising _ _ _ _
  have hrow := HR.out
  rw [hL] at hrow
  clear hL HR
  have HM := Lib.hid hmem
  have HRis := Lib.hid hris
  have hshape : ∃ ad c, v = .slice ad L.length c := by
    rcases hrow.2 with ⟨rfl, h0⟩ | ⟨g, cap, cur, rfl, _⟩
    · exact ⟨_, _, by rw [h0]⟩
    · exact ⟨_, _, rfl⟩
  obtain ⟨ad, cp, rfl⟩ := hshape
  have HCV : Hid (∀ W, Below w6.heap.size w6 W → (convert 38 9 (.slice ad L.length cp)).run Try.prog W = .ok (.string ⟨L.toArray⟩) W) := Lib.hid fun W hb => row_str (row_below hrow hb) _ Try.underlying9
  have HBy : Hid (∀ W, Below w6.heap.size w6 W → Byts W (.slice ad L.length cp) (L.map UInt8.toNat)) := Lib.hid fun W hb => (byts_of_owns (l := L.map UInt8.toNat) (by rw [List.length_map, ← u8s_enc]; exact hrow)).below hb
  obtain ⟨n, hn⟩ : ∃ n, L.length = n := ⟨_, rfl⟩
  have hn60 : n ≤ 60 := by
    rw [← hn]
    have h := sub_len L q.data.toList (hris.imp fun h e => by subst e; omega) (fun x hx => ((hmem x).1 hx).1)
    rw [ba_length] at h
    have := HQ.out
    omega
  rw [hn] at HCV HBy ⊢
  have HN := Lib.hid hn
  clear hrow hmem hris hn
  have hni : nums (bin r) = r := nums_of HI.out HK.out
  have QT : Hid (∀ W (c : UInt8), Below w6.heap.size w6 W → Calls Try.prog 16 #[.pointer (some ⟨p, 0, none⟩), .string (bin r), .int .u8 (c.toNat : Int)] W fun e w' => e = .returned (.string (bin (stepL q.data.toList k r c))) ∧ Below W.heap.size W w') := Lib.hid fun W c hb => step_st c HA.out (Below.next H6.out hb) HK.out HQ3.out HI.out
  have QK : Hid (∀ W (c : UInt8), Calls Try.prog 25 #[.string ⟨L.toArray⟩, .string ⟨#[c]⟩] W fun e w' => e = .returned (.bool (decide (c ∈ L))) ∧ Below W.heap.size W w') := Lib.hid fun W c => (Try.strings_Contains_one ⟨L.toArray⟩ c W).mono fun e w' h => ⟨h.1.trans (by rw [index_dec]), h.2 ▸ Below.refl _ _⟩
  have QK2 : Hid (∀ W (c : UInt8), c ∈ q.data.toList → Calls Try.prog 25 #[.string q, .string ⟨#[c]⟩] W fun e w' => e = .returned (.bool true) ∧ Below W.heap.size W w') := Lib.hid fun W c hc => (Try.strings_Contains_one q c W).mono fun e w' h => ⟨h.1.trans (by rw [index_dec, decide_eq_true hc]), h.2 ▸ Below.refl _ _⟩
  have QC : Hid (∀ W, Below w6.heap.size w6 W → Calls Try.prog 23 #[.pointer (some ⟨p, 0, none⟩), .string (bin (stepL q.data.toList k r o))] W fun e w' => e = .returned (.bool (decide (minT (stepL q.data.toList k r o) ≤ k))) ∧ Below W.heap.size W w') := Lib.hid fun W hb => can_st HA.out (Below.next H6.out hb) HK.out HQ3.out (stepL_is _ _ _ _)
  obtain ⟨mo, hmo⟩ : ∃ b, decide (minT (stepL q.data.toList k r o) ≤ k) = b := ⟨_, rfl⟩
  rw [hmo] at QC ⊢
  obtain ⟨NX, hNX⟩ : ∃ S, bin (stepL q.data.toList k r o) = S := ⟨_, rfl⟩
  rw [hNX] at QC
  have HNX := Lib.hid hNX
  clear hmo hNX hni QS QR QB HF H4 H5
  have H36 : Hid (Below w.heap.size w w6) := Lib.hid (Below.next H3.out H6.out)
  have HZ := Lib.hid (Below.refl w6.heap.size w6)
  go_wp2
  go_loopw [9, 10, 11] (fun s9 s10 s11 wr => ∃ (b : Nat) (nx : ByteArray) (se : Bool), b ≤ 256 ∧ s11 = .int .i64 (b : Int) ∧ s9 = .string nx ∧ s10 = .bool se ∧ Hid ((se = true → nx = NX) ∧ (se = false → ∀ i, i < b → UInt8.ofNat i ∈ L) ∧ Below w6.heap.size w6 wr)) (fun _ _ s11 _ => 256 - (intOf s11).toNat)
  case atStart => exact ⟨0, ⟨#[]⟩, false, by omega, rfl, rfl, rfl, Lib.hid ⟨fun h => (by cases h), fun _ i hi => (by omega), HZ.out⟩⟩
  case round =>
    obtain ⟨b, nx, se, hb, rfl, rfl, rfl, HS⟩ := hrel
    by_cases hlt : b < 256
    · have e1 : decide ((b : Int) < 256) = true := by simp; omega
      have e2 : decide (b < 256) = true := by simp; omega
      have w8 : IntKind.u8.wrap (b : Int) = (b : Int) := IntWalk.u8_in _ (by omega)
      have hcb : (UInt8.ofNat b).toNat = b := by simp; omega
      have hone : ∀ W : World, (convert 38 9 (.slice (some ⟨W.heap.size, 0, none⟩) 1 1)).run Try.prog (W.alloc (.cells #[.int .u8 (b : Int)] 5)) = .ok (.string ⟨#[UInt8.ofNat b]⟩) (W.alloc (.cells #[.int .u8 (b : Int)] 5)) := fun W => by
        have h := one_str W (UInt8.ofNat b)
        rw [hcb] at h
        exact h
      have HO1 := Lib.hid hone
      have QT1 : Hid (∀ W, Below w6.heap.size w6 W → Calls Try.prog 16 #[.pointer (some ⟨p, 0, none⟩), .string (bin r), .int .u8 (b : Int)] W fun e w' => e = .returned (.string (bin (stepL q.data.toList k r (UInt8.ofNat b)))) ∧ Below W.heap.size W w') := Lib.hid fun W hb => by
        have h := QT.out W (UInt8.ofNat b) hb
        rw [hcb] at h
        exact h
      obtain ⟨c, hc⟩ : ∃ c, UInt8.ofNat b = c := ⟨_, rfl⟩
      rw [hc] at HO1 QT1
      have hcv := HCV.out wr HS.out.2.2
      have h1 := HO1.out wr
      have HC := Lib.hid hc
      have HBA : Hid (Below w6.heap.size w6 (wr.alloc (.cells #[.int .u8 (b : Int)] 5))) := Lib.hid (Below.next HS.out.2.2 (below_alloc wr _))
      have QK1 := Lib.hid (QK.out (wr.alloc (.cells #[.int .u8 (b : Int)] 5)) c)
      clear hone hcb hc
      by_cases hin : c ∈ L
      · rw [decide_eq_true hin] at QK1
        have hq := ((HM.out c).1 hin).1
        have QK3 := Lib.hid fun W => QK2.out W c hq
        have HIN := Lib.hid hin
        clear hin hq
        go_wp2_with (first
          | (go_at_call 25; (with_reducible refine QK1.out.mono ?_); rintro e w7 ⟨rfl, hB⟩; have G7 := Lib.hid (Below.next HBA.out hB); clear hB)
          | (go_at_call 16; (with_reducible refine (QT1.out _ G7.out).mono ?_); rintro e w8' ⟨rfl, hB⟩; have G8 := Lib.hid (Below.next G7.out hB); clear hB h1; have h1 := HO1.out w8')
          | (go_at_call 25; (with_reducible refine (QK3.out _).mono ?_); rintro e w9 ⟨rfl, hB⟩; have G9 := Lib.hid (Below.next (Below.next G8.out (below_alloc w8' _)) hB); clear hB))
        go_roundw
        case rel => exact ⟨b + 1, nx, se, by omega, by go_num, rfl, rfl, Lib.hid ⟨HS.out.1, fun h i hi => by
          by_cases e : i = b
          · rw [e, HC.out]; exact HIN.out
          · exact HS.out.2.1 h i (by omega), G9.out⟩⟩
        case measure => simp [intOf]; omega
      · rw [decide_eq_false hin] at QK1
        have hst : bin (stepL q.data.toList k r c) = NX := by
          rw [← HNX.out]
          by_cases hq : c ∈ q.data.toList
          · by_cases e : stepL q.data.toList k r c = stepL q.data.toList k r o
            · rw [e]
            · exact (hin ((HM.out c).2 ⟨hq, e⟩)).elim
          · rw [step_foreign hq HO.out]
        rw [hst] at QT1
        clear hin hst
        cases se
        · go_wp2_with (first
            | (go_at_call 25; (with_reducible refine QK1.out.mono ?_); rintro e w7 ⟨rfl, hB⟩; have G7 := Lib.hid (Below.next HBA.out hB); clear hB)
            | (go_at_call 16; (with_reducible refine (QT1.out _ G7.out).mono ?_); rintro e w8' ⟨rfl, hB⟩; have G8 := Lib.hid (Below.next G7.out hB); clear hB)
            | (go_at_call 23; (with_reducible refine (QC.out _ G8.out).mono ?_); rintro e w9 ⟨rfl, hB⟩; have G9 := Lib.hid (Below.next G8.out hB); clear hB))
          go_roundw
          case rel => exact ⟨b + 1, NX, true, by omega, by go_num, rfl, rfl, Lib.hid ⟨fun _ => rfl, fun h => (by cases h), G9.out⟩⟩
          case measure => simp [intOf]; omega
        · obtain rfl : nx = NX := HS.out.1 rfl
          go_wp2_with (first
            | (go_at_call 25; (with_reducible refine QK1.out.mono ?_); rintro e w7 ⟨rfl, hB⟩; have G7 := Lib.hid (Below.next HBA.out hB); clear hB)
            | (go_at_call 16; (with_reducible refine (QT1.out _ G7.out).mono ?_); rintro e w8' ⟨rfl, hB⟩; have G8 := Lib.hid (Below.next G7.out hB); clear hB)
            | (go_at_call 23; (with_reducible refine (QC.out _ G8.out).mono ?_); rintro e w9 ⟨rfl, hB⟩; have G9 := Lib.hid (Below.next G8.out hB); clear hB))
          go_roundw
          case rel => exact ⟨b + 1, nx, true, by omega, by go_num, rfl, rfl, Lib.hid ⟨fun _ => rfl, fun h => (by cases h), G9.out⟩⟩
          case measure => simp [intOf]; omega
    · have hb6 : b = 256 := by omega
      have e1 : decide ((b : Int) < 256) = false := by simp; omega
      have e2 : decide (b < 256) = false := by simp; omega
      have hse : se = true := by
        cases se
        · exact (not_all (q := q.data.toList) (by rw [ba_length]; have := HQ.out; omega) (fun i hi => ((HM.out _).1 (HS.out.2.1 rfl i (by omega))).1)).elim
        · rfl
      subst hse
      obtain rfl : nx = NX := HS.out.1 rfl
      have HS2 := Lib.hid HS.out.2.2
      clear HS hb6 hlt
      go_wp2
      go_loopw [14] (fun s14 wr => ∃ i : Nat, i ≤ n ∧ s14 = .int .i64 (i : Int) ∧ Hid (Below w6.heap.size w6 wr)) (fun s14 _ => n - (intOf s14).toNat)
      case atStart => exact ⟨0, Nat.zero_le _, rfl, HS2⟩
      case round =>
        obtain ⟨i, hi, rfl, HB⟩ := hrel
        by_cases hin : i < n
        · have f1 : decide ((i : Int) < (n : Int)) = true := by simp; omega
          have f2 : decide (i < n) = true := by simp; omega
          have il : (i : Int) < (n : Int) := by omega
          obtain ⟨g, go, cp', hv, hcells⟩ := (HBy.out w6 HZ.out).some (by rw [List.length_map, HN.out]; omega)
          rw [List.length_map, HN.out] at hv hcells
          injection hv with hv1 hv2 hv3
          subst hv1
          have hLn : ∀ j, j < n → (L.map UInt8.toNat).getD j 0 = (L.getD j 0).toNat := fun j hj => by
            have : j < L.length := by rw [HN.out]; exact hj
            simp [List.getD, this]
          have HCl : Hid (∀ W, Below w6.heap.size w6 W → ∀ j, j < n → W.cell? ⟨g, go + j, none⟩ = some (.int .u8 ((L.getD j 0).toNat : Int))) := Lib.hid fun W hb j hj => by
            have hc := hcells j hj
            rw [hLn j hj] at hc
            rw [hb.cell (p := ⟨g, go + j, none⟩) (block_lt_of_cell hc)]
            exact hc
          clear hv2 hv3 hcells hLn
          have hxm : L.getD i 0 ∈ L := by
            have : i < L.length := by rw [HN.out]; exact hin
            simp [List.getD, this]
          have hne := ((HM.out _).1 hxm).2
          obtain ⟨x, hx⟩ : ∃ x, L.getD i 0 = x := ⟨_, rfl⟩
          rw [hx] at hne
          obtain ⟨TO, hTO⟩ : ∃ TO, bin (stepL q.data.toList k r x) = TO := ⟨_, rfl⟩
          have hneq : TO ≠ nx := fun e => by
            rw [← hTO, ← HNX.out] at e
            exact hne (bin_inj HK.out (stepL_is _ _ _ _) (stepL_is _ _ _ _) (by rw [e]))
          have hneq2 : (TO.toList == nx.toList) = false := by rw [toList_beq]; exact decide_eq_false hneq
          have QX : Hid (∀ W, Below w6.heap.size w6 W → Calls Try.prog 16 #[.pointer (some ⟨p, 0, none⟩), .string (bin r), .int .u8 (x.toNat : Int)] W fun e w' => e = .returned (.string TO) ∧ Below W.heap.size W w') := Lib.hid fun W hb => by rw [← hTO]; exact QT.out W x hb
          have HXX := Lib.hid hx
          clear hTO hneq hne hxm hx
          by_cases h0 : i = 0
          · subst h0
            have HX : Hid (∀ W, Below wr.heap.size wr W → W.cell? ⟨g, go, none⟩ = some (.int .u8 (x.toNat : Int))) := Lib.hid fun W hb => by have h := HCl.out W (Below.next HB.out hb) 0 hin; rw [HXX.out] at h; exact h
            go_upto_region 25 with fail
            refine Said.region (by kernel_rfl) (by kernel_rfl) (by kernel_rfl) [.is (.bool true), .is (.bool true), .is (.pointer (some ⟨p, 0, none⟩)), .is (.string (bin r)), .is (.slice (some ⟨g, go, none⟩) n cp), .is (.int .i64 0), .is (.pointer (some ⟨g, go, none⟩)), .is (.int .u8 (x.toNat : Int)), .is (.string TO), .is (.string nx), .is (.bool false), .is (.bool false), .is (.bool false), .is (.int .i64 0), .is (.bool false), .is (.bool false), .is undef, .is undef, .is undef, .is undef, .is undef, .is undef, .is undef, .is undef, .is undef, .is undef, .is (.bool false), .is (.bool false)] ?_
            simp only [List.toList_toArray]
            iterate 8 (
              refine sq_pure (by rfl) (fun W hb _ => ?_) ?_
              · have y1 := HX.out W hb
                go_simp
                all_goals first | done | omega
              simp only [Act.put, List.setIfInBounds_toArray, List.set_cons_zero, List.set_cons_succ])
            refine sq_call (f := 16) (args := #[.pointer (some ⟨p, 0, none⟩), .string (bin r), .int .u8 (x.toNat : Int)]) (by rfl) (fun W => by go_simp) (fun W hb _ => QX.out W (Below.next HB.out hb)) ?_
            simp only [Act.put, List.setIfInBounds_toArray, List.set_cons_zero, List.set_cons_succ]
            iterate 7 (
              refine sq_pure (by rfl) (fun W hb _ => ?_) ?_
              · skip
                go_simp
                all_goals first | done | omega
              simp only [Act.put, List.setIfInBounds_toArray, List.set_cons_zero, List.set_cons_succ])
            iterate 10 (
              refine sq_struck (by rfl) ?_
              simp only [Act.put, List.setIfInBounds_toArray, List.set_cons_zero, List.set_cons_succ])
            iterate 2 (
              refine sq_pure (by rfl) (fun W hb _ => ?_) ?_
              · skip
                go_simp
                all_goals first | done | omega
              simp only [Act.put, List.setIfInBounds_toArray, List.set_cons_zero, List.set_cons_succ])
            refine sq_end (fun w9 hb9 hK9 => ?_)
            have H9 := Lib.hid (Below.next HB.out hb9)
            clear hK9 hb9
            go_wp2
            go_roundw
            case rel => exact ⟨0 + 1, by omega, by go_num, H9⟩
            case measure => simp [intOf]; omega
          · obtain ⟨j, rfl⟩ : ∃ j, i = j + 1 := ⟨i - 1, by omega⟩
            obtain ⟨y, hy⟩ : ∃ y, L.getD j 0 = y := ⟨_, rfl⟩
            have hlt2 : y.toNat < x.toNat := by
              rw [← hy, ← HXX.out]
              have hj : j < L.length := by rw [HN.out]; omega
              have hj1 : j + 1 < L.length := by rw [HN.out]; omega
              have h := (List.pairwise_iff_getElem.1 HRis.out) j (j + 1) hj hj1 (by omega)
              simpa [List.getD, hj, hj1] using h
            have c1 : decide ((x.toNat : Int) ≤ (y.toNat : Int)) = false := by simp; omega
            have c2 : decide (x.toNat ≤ y.toNat) = false := by simp; omega
            have c3 : decide (x ≤ y) = false := decide_eq_false (fun h => by have : x.toNat ≤ y.toNat := h; omega)
            have HX : Hid (∀ W, Below wr.heap.size wr W → W.cell? ⟨g, go + (j + 1), none⟩ = some (.int .u8 (x.toNat : Int)) ∧ W.cell? ⟨g, go + j, none⟩ = some (.int .u8 (y.toNat : Int))) := Lib.hid fun W hb => by
              have h := HCl.out W (Below.next HB.out hb) (j + 1) hin
              have h' := HCl.out W (Below.next HB.out hb) j (by omega)
              rw [HXX.out] at h
              rw [hy] at h'
              exact ⟨h, h'⟩
            have jl : (j : Int) < (n : Int) := by omega
            have jw : IntKind.i64.wrap (j : Int) = (j : Int) := IntWalk.i64_in _ (by omega)
            have jp : decide ((0 : Int) < (j : Int) + 1) = true := decide_eq_true (by omega)
            have jp2 : decide (0 < j + 1) = true := by simp
            clear hlt2 hy h0
            go_upto_region 25 with fail
            refine Said.region (by kernel_rfl) (by kernel_rfl) (by kernel_rfl) [.is (.bool true), .is (.bool true), .is (.pointer (some ⟨p, 0, none⟩)), .is (.string (bin r)), .is (.slice (some ⟨g, go, none⟩) n cp), .is (.int .i64 ((j + 1 : Nat) : Int)), .is (.pointer (some ⟨g, go + (j + 1), none⟩)), .is (.int .u8 (x.toNat : Int)), .is (.string TO), .is (.string nx), .is (.bool false), .is (.bool false), .is (.bool false), .is (.int .i64 ((j + 1 : Nat) : Int)), .is (.bool true), .is (.bool true), .is (.slice (some ⟨g, go, none⟩) n cp), .is (.int .i64 ((j + 1 : Nat) : Int)), .is (.pointer (some ⟨g, go + (j + 1), none⟩)), .is (.int .u8 (x.toNat : Int)), .is (.slice (some ⟨g, go, none⟩) n cp), .is (.int .i64 ((j + 1 : Nat) : Int)), .is (.int .i64 (j : Int)), .is (.pointer (some ⟨g, go + j, none⟩)), .is (.int .u8 (y.toNat : Int)), .is (.bool false), .is (.bool false), .is (.bool false)] ?_
            simp only [List.toList_toArray]
            iterate 8 (
              refine sq_pure (by rfl) (fun W hb _ => ?_) ?_
              · obtain ⟨y1, y2⟩ := HX.out W hb
                go_simp
                all_goals first | done | omega
              simp only [Act.put, List.setIfInBounds_toArray, List.set_cons_zero, List.set_cons_succ])
            refine sq_call (f := 16) (args := #[.pointer (some ⟨p, 0, none⟩), .string (bin r), .int .u8 (x.toNat : Int)]) (by rfl) (fun W => by go_simp) (fun W hb _ => QX.out W (Below.next HB.out hb)) ?_
            simp only [Act.put, List.setIfInBounds_toArray, List.set_cons_zero, List.set_cons_succ]
            iterate 19 (
              refine sq_pure (by rfl) (fun W hb _ => ?_) ?_
              · obtain ⟨y1, y2⟩ := HX.out W hb
                go_simp
                all_goals first | done | omega
              simp only [Act.put, List.setIfInBounds_toArray, List.set_cons_zero, List.set_cons_succ])
            refine sq_end (fun w9 hb9 hK9 => ?_)
            have H9 := Lib.hid (Below.next HB.out hb9)
            clear hK9 hb9
            go_wp2
            go_roundw
            case rel => exact ⟨j + 1 + 1, by omega, by go_num, H9⟩
            case measure => simp [intOf]; omega
        · have f1 : decide ((i : Int) < (n : Int)) = false := by simp; omega
          have f2 : decide (i < n) = false := by simp; omega
          go_wp2
          go_ret
          exact ⟨rfl, Below.next H36.out HB.out⟩
end Go.Proofs.Ythgdanbkngnckaa

/-
  NameNumbers: the walk.
-/
import Derived.Test.YtioilknfjccfeaaDoorNNumM
import Derived.Deep.DeepCutAuto
import Derived.Deep.CutBlock
import Derived.Deep.CutRange
namespace Go.Proofs.YtioilknfjccfeaaDoor
open Go.RowKit Go.Shelf

theorem row_shape {w : World} {base size n : Nat} {e : TypeId} {v : Value} {xs : List Value} (h : w.ownsRow base e size v n xs) : ∃ ad c, v = .slice ad n c := by
  rcases h.2 with ⟨rfl, h0⟩ | ⟨g, cap, cur, rfl, _⟩
  · exact ⟨none, 0, by rw [h0]⟩
  · exact ⟨_, cap, rfl⟩

theorem gets_mem {L : List ByteArray} {i : Nat} (h : i < L.length) : L.getD i ⟨#[]⟩ ∈ L := by simp [List.getD, h]
theorem mem_gets {L : List ByteArray} {s : ByteArray} (h : s ∈ L) : ∃ i, i < L.length ∧ L.getD i ⟨#[]⟩ = s := by
  obtain ⟨i, hi, e⟩ := List.getElem_of_mem h
  exact ⟨i, hi, by simp [List.getD, hi, e]⟩

set_option maxHeartbeats 20000000 in
set_option maxRecDepth 100000 in
theorem nameNumbers_walk (a : List Nat) (va : Value) (b : List Nat) (vb : Value) (s : ByteArray) (w : World) (hT : Tabs w) (hva : U32s w va a) (hvb : U32s w vb b) (hs : s.size ≤ 9223372036854775807) :
    Calls Tryd.prog 6 #[va, vb, .string s] w fun e w' => e = .returned (.bool true) ∧ Below w.heap.size w w' := by
  have HT := Lib.hid (fun W (hW : Below w.heap.size w W) => hT.below hW)
  have W1 := Lib.hid (works_any w hT)
  obtain ⟨O, hO⟩ : ∃ O, s.extract 0 (min s.size 20) = O := ⟨_, rfl⟩
  have hOs : O.size ≤ 20 := by rw [← hO, ByteArray.size_extract]; omega
  have Q18 : Hid (∀ W, Below w.heap.size w W → ∀ k : Nat, (k = 3 ∨ k = 4) → Calls Tryd.prog 18 #[.int .i64 (k : Int), va, .string s] W fun e w' => (∃ r, e = .returned r ∧ Strs w' r (Plain.madeT k O (a.take 20))) ∧ Below W.heap.size W w') := Lib.hid fun W hW k hk => by
    rw [← hO]
    exact made_any k hk a va s hs W (HT.out W hW) (hva.below hW)
  have Q18' : Hid (∀ W, Below w.heap.size w W → ∀ k : Nat, (k = 3 ∨ k = 4) → Calls Tryd.prog 18 #[.int .i64 (k : Int), vb, .string s] W fun e w' => (∃ r, e = .returned r ∧ Strs w' r (Plain.madeT k O (b.take 20))) ∧ Below W.heap.size W w') := Lib.hid fun W hW k hk => by
    rw [← hO]
    exact made_any k hk b vb s hs W (HT.out W hW) (hvb.below hW)
  have Q13 : Hid (∀ W, Below w.heap.size w W → ∀ (k : Nat) (L : List ByteArray) (v : Value), Strs W v L → (∀ x ∈ L, x.size ≤ 281474976710656) → L.length ≤ 1000000 → Calls Tryd.prog 13 #[.int .i64 (k : Int), v] W fun e w' => (∃ r, e = .returned r ∧ Ints w' r (Plain.numsT k L)) ∧ Below W.heap.size W w') := Lib.hid fun W hW k L v hv hf hl =>
    numbers_any k L v W (HT.out W hW) hv (fine_of hf) hl
  have hXs : ∀ k : Nat, ∀ x ∈ Plain.madeT k O (a.take 20), x.size ≤ 281474976710656 := fun k => Plain.madeT_size hOs
  have hYs : ∀ k : Nat, ∀ x ∈ Plain.madeT k O (b.take 20), x.size ≤ 281474976710656 := fun k => Plain.madeT_size hOs
  have hXl : ∀ k : Nat, 1 ≤ (Plain.madeT k O (a.take 20)).length ∧ (Plain.madeT k O (a.take 20)).length ≤ 61 := fun k => by rw [Plain.madeT_length, List.length_take]; omega
  have hYl : ∀ k : Nat, 1 ≤ (Plain.madeT k O (b.take 20)).length ∧ (Plain.madeT k O (b.take 20)).length ≤ 61 := fun k => by rw [Plain.madeT_length, List.length_take]; omega
  have HXs := Lib.hid hXs
  have HYs := Lib.hid hYs
  have HXl := Lib.hid hXl
  have HYl := Lib.hid hYl
  clear hT hva hvb hXs hYs hXl hYl hO hOs hs
  obtain ⟨i0, hi, hz0, hz1, hz2⟩ := i9'
  go_enter Tryd.func6, Tryd.ntmps6
  go_wp2_with (go_at_call 15; (with_reducible refine W1.out.mono ?_); rintro e w1 ⟨rfl, hb1⟩; have HB1 := Lib.hid hb1; clear hb1)
  go_loopw [7] (fun s7 wr => ∃ k : Nat, 3 ≤ k ∧ k ≤ 5 ∧ s7 = .int .i64 k ∧ Below w.heap.size w wr) (fun s7 _ => 5 - (intOf s7).toNat)
  case atStart => exact ⟨3, by omega, by omega, rfl, HB1.out⟩
  case round =>
    obtain ⟨k, hk3, hk5, rfl, hb⟩ := hrel
    have HB := Lib.hid hb
    clear hb
    by_cases hlt : k < 5
    · have e22 : decide ((k : Int) ≤ 4) = true := decide_eq_true (by omega)
      have hk4 : (k : Int) ≤ 4 := by omega
      have hk : k = 3 ∨ k = 4 := by omega
      have HK := Lib.hid hk
      have R18 := Lib.hid (Q18.out wr HB.out k hk)
      have R18' := Lib.hid (fun W hW => Q18'.out W hW k hk)
      have XS := Lib.hid (HXs.out k)
      have YS := Lib.hid (HYs.out k)
      have XL := HXl.out k
      have YL := HYl.out k
      obtain ⟨X, hX⟩ : ∃ X, Plain.madeT k O (a.take 20) = X := ⟨_, rfl⟩
      obtain ⟨Y, hY⟩ : ∃ Y, Plain.madeT k O (b.take 20) = Y := ⟨_, rfl⟩
      rw [hX] at R18 XS XL
      rw [hY] at R18' YS YL
      obtain ⟨xl, hxl⟩ : ∃ xl, X.length = xl := ⟨_, rfl⟩
      obtain ⟨yl, hyl⟩ : ∃ yl, Y.length = yl := ⟨_, rfl⟩
      rw [hxl] at XL
      rw [hyl] at YL
      have HXL := Lib.hid hxl
      have HYL := Lib.hid hyl
      clear hX hY hxl hyl hk Q18 Q18' HXs HYs HXl HYl
      go_upto_block 2 with (first
        | (go_at_call 18; first
            | ((with_reducible refine R18.out.mono ?_); rintro e w2 ⟨⟨r, rfl, hr⟩, hb2⟩; have hr2 := strs_cells hr; rw [HXL.out] at hr2; obtain ⟨adx, cx, rfl, hcx⟩ := hr2; have HR := Lib.hid hr; have HB2 := Lib.hid (Below.next HB.out hb2); clear hr hb2 hcx)
            | ((with_reducible refine (R18'.out _ HB2.out).mono ?_); rintro e w3 ⟨⟨r', rfl, hr⟩, hb2⟩; have hr2 := strs_cells hr; rw [HYL.out] at hr2; obtain ⟨ady, cy, rfl, hcy⟩ := hr2; have HRY := Lib.hid hr; have HRX := Lib.hid (HR.out.below hb2); have HB3 := Lib.hid (Below.next HB2.out hb2); clear hr hb2 hcy))
        | fail)
      clear R18 R18' HR HB2
      have HCX := strs_cells HRX.out
      rw [HXL.out] at HCX
      obtain ⟨adx', cx', he, hcx⟩ := HCX
      cases he
      have HCX := Lib.hid hcx
      have e35 : (xl : Int) - 1 = ((xl - 1 : Nat) : Int) := by omega
      clear hcx e35
      go_wp2
      go_loopw [10, 11] (fun s10 s11 W => ∃ (j bl : Nat) (B : List ByteArray), j ≤ xl ∧ s11 = .int .i64 ((j : Int) - 1) ∧ B.length = bl ∧ bl = 2 * (xl - j) ∧ (∀ x ∈ B, x ∈ X) ∧ (∀ i, j ≤ i → i < xl → X.getD i ⟨#[]⟩ ∈ B) ∧ W.ownsRow w3.heap.size 9 1 s10 bl (strs B) ∧ Below w3.heap.size w3 W) (fun _ s11 _ => (intOf s11 + 1).toNat)
      case atStart => exact ⟨xl, 0, [], by omega, rfl, rfl, by omega, fun x hx => by simp at hx, fun i h1 h2 => by omega, World.ownsRow_nil w3 w3.heap.size 9 1, Below.refl _ _⟩
      case round =>
        obtain ⟨j, bl, B, hj, rfl, hBl, hbl, hB1, hB2, hown, hb⟩ := hrel
        have HBB1 := Lib.hid hB1
        have HBB2 := Lib.hid hB2
        have HBL := Lib.hid (And.intro hBl hbl)
        have HBK := Lib.hid hb
        have hbl2 : bl ≤ 122 := by omega
        clear hB1 hB2 hb hBl hbl
        by_cases hj0 : 0 < j
        · have e37 : decide ((0 : Int) ≤ (j : Int) - 1) = true := decide_eq_true (by omega)
          obtain ⟨i, hij⟩ : ∃ i, j = i + 1 := ⟨j - 1, by omega⟩
          obtain ⟨b1, o1, rfl, hcell⟩ := HCX.out wr HBK.out i (by omega)
          subst hij
          rw [show (((i + 1 : Nat) : Int) - 1) = (i : Int) by omega] at e37 ⊢
          have hiX : X.getD i ⟨#[]⟩ ∈ X := gets_mem (by rw [HXL.out]; omega)
          obtain ⟨x, hx⟩ : ∃ x, X.getD i ⟨#[]⟩ = x := ⟨_, rfl⟩
          rw [hx] at hcell hiX
          have HX := Lib.hid hx
          have HIX := Lib.hid hiX
          obtain ⟨adb, cb, rfl⟩ := row_shape hown
          have hownB : wr.ownsRow w3.heap.size 9 1 (.slice adb bl cb) B.length (strs B) := by rw [HBL.out.1]; exact hown
          have hblB : B.length + 2 ≤ 1000000 := by rw [HBL.out.1]; omega
          have hcg := fun d os => cell_regrown hcell d os
          have hil : (i : Int) < (xl : Int) := by omega
          have hi0 : (0 : Int) ≤ (i : Int) := by omega
          have hwi : IntKind.i64.wrap (i : Int) = (i : Int) := IntWalk.i64_in _ (by omega)
          have hbel := HBK.out
          clear hx hiX hown
          go_wp2
          go_region_law (refine step_append_strs (w0 := w3) rfl (.tmp 40) (.tmp 49) rfl rfl (.slice adb bl cb) (.slice (some ⟨_, 0, none⟩) 2 2) B [x, x] rfl rfl (by repeat (first | (with_reducible assumption) | (with_reducible apply below_drew') | (with_reducible apply below_alloc'))) (by repeat (first | (with_reducible assumption) | (with_reducible apply owns_drew') | (with_reducible apply World.ownsRow.alloc))) (by repeat (first | (with_reducible exact strs_two rfl) | (with_reducible apply strs_drew'))) (by simpa using hblB) ?_; intro v' w' o1 g1 b1)
          all_goals go_wp2
          all_goals
            refine ⟨⟨i, bl + 2, B ++ [x, x], by omega, rfl, by rw [List.length_append, HBL.out.1]; rfl, by have := HBL.out.2; omega, fun y hy => ?_, fun t h1 h2 => ?_, ?_, b1⟩, by simp [intOf]⟩
            · rcases List.mem_append.1 hy with hy | hy
              · exact HBB1.out y hy
              · simp only [List.mem_cons, List.not_mem_nil, or_false] at hy
                rcases hy with rfl | rfl <;> exact HIX.out
            · by_cases ht : t = i
              · subst ht; rw [HX.out]; simp
              · exact List.mem_append.2 (.inl (HBB2.out t (by omega) h2))
            · rw [List.length_append, HBL.out.1] at o1
              exact o1
        · obtain rfl : j = 0 := by omega
          have e37 : decide ((0 : Int) ≤ ((0 : Nat) : Int) - 1) = false := decide_eq_false (by omega)
          have HBS := Lib.hid (strs_of_owns (l := B) (by rw [HBL.out.1]; exact hown))
          obtain ⟨adb, cb, rfl⟩ := row_shape hown
          have HXB : Hid (Plain.numsT k B = Plain.numsT k X) := Lib.hid (Plain.nums_same HBB1.out fun x hx => by
            obtain ⟨i, hi, rfl⟩ := mem_gets hx
            exact HBB2.out i (by omega) (by rw [← HXL.out]; exact hi))
          have HALL : Hid (Plain.numsT k ([] ++ Y ++ X) = Plain.insAll (Plain.numsT k X ++ Plain.numsT k Y)) := Lib.hid (Plain.nums_join (by have := HK.out; omega) X Y)
          have hNl := Plain.numsT_length_le k X
          have hMl := Plain.numsT_length_le k Y
          have hNb := fun n (h : n ∈ Plain.numsT k X) => Plain.numsT_bound h
          have hMb := fun n (h : n ∈ Plain.numsT k Y) => Plain.numsT_bound h
          rw [HXL.out] at hNl
          rw [HYL.out] at hMl
          have P1 := Lib.hid (fun W hW v (h : Strs W v X) => Q13.out W hW k X v h XS.out (by rw [HXL.out]; omega))
          have P2 := Lib.hid (fun W hW v (h : Strs W v Y) => Q13.out W hW k Y v h YS.out (by rw [HYL.out]; omega))
          have P3 := Lib.hid (fun W hW v (h : Strs W v ([] ++ Y ++ X)) => Q13.out W hW k _ v h (fun x hx => by
            rcases List.mem_append.1 hx with h | h
            · rw [List.nil_append] at h; exact YS.out x h
            · exact XS.out x h) (by rw [List.length_append, List.nil_append, HXL.out, HYL.out]; omega))
          have P4 := Lib.hid (fun W hW v (h : Strs W v B) => Q13.out W hW k B v h (fun x hx => XS.out x (HBB1.out x hx)) (by rw [HBL.out.1]; omega))
          rw [HALL.out] at P3
          rw [HXB.out] at P4
          obtain ⟨N, hN⟩ : ∃ N, Plain.numsT k X = N := ⟨_, rfl⟩
          obtain ⟨M, hM⟩ : ∃ M, Plain.numsT k Y = M := ⟨_, rfl⟩
          rw [hN] at P1 P3 P4 hNl hNb
          rw [hM] at P2 P3 hMl hMb
          have C12 : Hid (∀ W r r', Ints W r N → Ints W r' N → Calls Tryd.prog 12 #[r, r'] W fun e w' => e = .returned (.bool true) ∧ Below W.heap.size W w') := Lib.hid fun W r r' h h' => by
            have := ints_any _ _ r r' W h h' (by omega) (by omega)
            simpa using this
          have HNB := Lib.hid hNb
          have HMB := Lib.hid hMb
          clear hN hM hNb hMb HXB HALL Q13 HBB1 HBB2 hown
          have HW0 := Lib.hid (Below.next HB3.out HBK.out)
          have HX0 := Lib.hid (HRX.out.below HBK.out)
          have HY0 := Lib.hid (HRY.out.below HBK.out)
          have hxy : yl + xl ≤ 1000000 := by omega
          have hmm := @run_makeMap Tryd.prog
          go_upto_block 3 with (first
            | (go_at_call 13; first
                | ((with_reducible refine (P1.out _ HW0.out _ HX0.out).mono ?_); rintro e w4 ⟨⟨r, rfl, hr⟩, hb2⟩; obtain ⟨adn, cn, rfl, hcn⟩ := ints_cells_of hr; have HR1 := Lib.hid hr; have HD4 := Lib.hid hb2; have HW4 := Lib.hid (Below.next HW0.out hb2); clear hr hb2 hcn)
                | ((with_reducible refine (P2.out _ HW4.out _ (HY0.out.below HD4.out)).mono ?_); rintro e w5 ⟨⟨r, rfl, hr⟩, hb2⟩; obtain ⟨adm, cm, rfl, hcn⟩ := ints_cells_of hr; have HR2 := Lib.hid hr; have HD5 := Lib.hid (Below.next HD4.out hb2); have HE5 := Lib.hid hb2; have HW5 := Lib.hid (Below.next HW4.out hb2); clear hr hb2 hcn)
                | ((with_reducible refine (P3.out _ HW7.out _ (strs_of_owns HO7.out)).mono ?_); rintro e w8 ⟨⟨r, rfl, hr⟩, hb2⟩; obtain ⟨ada, ca, rfl, hcn⟩ := ints_cells_of hr; have HR3 := Lib.hid hr; have HD8 := Lib.hid (Below.next HD7.out hb2); have HE8 := Lib.hid (Below.next HE7.out hb2); have HF8 := Lib.hid (Below.next HF7.out hb2); have HW8 := Lib.hid (Below.next HW7.out hb2); clear hr hb2 hcn)
                | ((with_reducible refine (P4.out _ HW8.out _ (HBS.out.below HD8.out)).mono ?_); rintro e w9 ⟨⟨r, rfl, hr⟩, hb2⟩; have HR4 := Lib.hid hr; have HE9 := Lib.hid (Below.next HE8.out hb2); have HF9 := Lib.hid (Below.next HF8.out hb2); have HG9 := Lib.hid hb2; have HW9 := Lib.hid (Below.next HW8.out hb2); clear hr hb2))
            | (go_at_call 12; (with_reducible refine (C12.out _ _ _ HR4.out (HR1.out.below HE9.out)).mono ?_); rintro e w10 ⟨rfl, hb2⟩; have HE10 := Lib.hid (Below.next HE9.out hb2); have HF10 := Lib.hid (Below.next HF9.out hb2); have HG10 := Lib.hid (Below.next HG9.out hb2); have HW10 := Lib.hid (Below.next HW9.out hb2); clear hb2)
            | (at_builtin; first
                | (refine wpList_append_strs _ rfl (.tmp 58) (.tmp 59) rfl rfl w5.heap.size _ _ [] Y rfl rfl (owns_empty (Below.refl _ w5) rfl) ((HY0.out.below HD5.out).below (below_alloc' (Below.refl _ _))) (by rw [HYL.out]; simp; omega) (by simp) ?_; intro v6 w6 o6 g6; have hb6 : Below w5.heap.size w5 w6 := ((Below.refl w5.heap.size w5).alloc (Nat.le_refl _) _).grown g6 (by simp) (fun k hk => by cases hk; exact Nat.le_refl _); have HO6 := Lib.hid o6; have HZ6 := Lib.hid hb6; clear o6 g6 hb6)
                | (refine wpList_append_strs _ rfl (.tmp 60) (.tmp 61) rfl rfl w5.heap.size _ _ ([] ++ Y) X rfl rfl HO6.out ((HX0.out.below HD5.out).below HZ6.out) (by rw [List.nil_append, HXL.out, HYL.out]; exact hxy) HZ6.out.size ?_; intro v7 w7 o7 g7; have hb7 : Below w5.heap.size w5 w7 := HZ6.out.grown g7 HZ6.out.size (fun k hk => (HO6.out.lt k hk).1); have HO7 := Lib.hid o7; have HD7 := Lib.hid (Below.next HD5.out hb7); have HE7 := Lib.hid (Below.next HE5.out hb7); have HF7 := Lib.hid hb7; have HW7 := Lib.hid (Below.next HW5.out hb7); clear o7 g7 hb7)))
          have HCN : Hid (∀ W, Below w10.heap.size w10 W → ∀ i, i < N.length → ∃ b o, adn = some ⟨b, o, none⟩ ∧ W.cell? ⟨b, o + i, none⟩ = some (.int .i64 ((N.getD i 0 : Nat) : Int))) := by
            obtain ⟨ad', c', he, hc⟩ := ints_cells_of HR1.out
            cases he
            exact Lib.hid fun W hW => hc W (Below.next HE10.out hW)
          have HCM : Hid (∀ W, Below w10.heap.size w10 W → ∀ i, i < M.length → ∃ b o, adm = some ⟨b, o, none⟩ ∧ W.cell? ⟨b, o + i, none⟩ = some (.int .i64 ((M.getD i 0 : Nat) : Int))) := by
            obtain ⟨ad', c', he, hc⟩ := ints_cells_of HR2.out
            cases he
            exact Lib.hid fun W hW => hc W (Below.next HF10.out hW)
          obtain ⟨A, hA⟩ : ∃ A, Plain.insAll (N ++ M) = A := ⟨_, rfl⟩
          have HAM : Hid (∀ x, x ∈ A → x ∈ N ++ M) := Lib.hid fun x hx => by rw [← hA] at hx; exact Plain.insAll_mem.1 hx
          have HAR : Hid (A.Pairwise (· < ·)) := Lib.hid (by rw [← hA]; exact Plain.insAll_rises _)
          have HCA : Hid (∀ W, Below w10.heap.size w10 W → ∀ i, i < A.length → ∃ b o, ada = some ⟨b, o, none⟩ ∧ W.cell? ⟨b, o + i, none⟩ = some (.int .i64 ((A.getD i 0 : Nat) : Int))) := by
            obtain ⟨ad', c', he, hc⟩ := ints_cells_of HR3.out
            cases he
            rw [hA] at hc
            exact Lib.hid fun W hW => hc W (Below.next HG10.out hW)
          have HA := Lib.hid hA
          rw [hA]
          obtain ⟨nl, hnl⟩ : ∃ nl, N.length = nl := ⟨_, rfl⟩
          obtain ⟨ml, hml⟩ : ∃ ml, M.length = ml := ⟨_, rfl⟩
          obtain ⟨al, hal⟩ : ∃ al, A.length = al := ⟨_, rfl⟩
          have hal2 : al ≤ 1000 := by
            have h1 := Plain.rises_length_le (a := A) (b := N ++ M) HAR.out HAM.out
            rw [List.length_append, hnl, hml, hal] at h1
            omega
          rw [hnl] at HCN hNl
          rw [hml] at HCM hMl
          rw [hal] at HCA
          have HNL := Lib.hid hnl
          have HML := Lib.hid hml
          have HAL := Lib.hid hal
          rw [hnl, hml, hal]
          have HM0 := Lib.hid (has_made w10)
          have HK0 : Hid (Below w10.heap.size w10 (w10.alloc (.map #[] 0))) := Lib.hid (below_alloc' (Below.refl _ _))
          clear hA hnl hml hal hmm P1 P2 P3 P4 C12 HR1 HR2 HR3 HR4 HW0 HX0 HY0 hxy HW4 HW5 HW7 HW8 HW9 HD4 HD5 HD7 HD8 HE5 HE7 HE8 HE9 HE10 HF7 HF8 HF9 HF10 HG9 HG10 HO6 HO7 HZ6 HBS HRX HRY HB3 XS YS
          generalize w10.alloc (.map #[] 0) = w11 at HM0 HK0 ⊢
          go_loopw [16] (fun s16 W => ∃ i : Nat, i ≤ nl ∧ s16 = .int .i64 i ∧ Below w10.heap.size w10 W ∧ HasMap W w10.heap.size (N.take i)) (fun s16 _ => nl - (intOf s16).toNat)
          case atStart => exact ⟨0, by omega, rfl, HK0.out, HM0.out⟩
          case round =>
            obtain ⟨i, hi5, rfl, hb5, hm5⟩ := hrel
            have HB5 := Lib.hid hb5
            have HM5 := Lib.hid hm5
            clear hb5 hm5
            by_cases hlt : i < nl
            · have e74 : decide ((i : Int) < (nl : Int)) = true := decide_eq_true (by omega)
              obtain ⟨b1, o1, rfl, hcell⟩ := HCN.out wr HB5.out i hlt
              have HS := Lib.hid (take_snocN N i (by rw [HNL.out]; exact hlt))
              have hz := (HNB.out (N.getD i 0) (by have h := HNL.out; simp [List.getD, show i < N.length by omega])).2
              obtain ⟨z, hzz⟩ : ∃ z, N.getD i 0 = z := ⟨_, rfl⟩
              rw [hzz] at hcell HS hz
              clear hzz
              go_wp2_with (at_mapUpdate; refine wpList_put_has _ rfl _ _ _ rfl w10.heap.size (N.take i) z rfl rfl rfl HM5.out (by rw [List.length_take]; omega) hz ?_; intro w12 h12 g12; have H12 := Lib.hid (And.intro h12 g12); clear h12 g12)
              have h12 : Below w10.heap.size w10 w12 := HB5.out.grown H12.out.2 HB5.out.size (fun k hk => by cases hk; exact Nat.le_refl _)
              exact ⟨⟨i + 1, by omega, by go_num, h12, by rw [HS.out]; exact H12.out.1⟩, by simp [intOf]; omega⟩
            · have e74 : decide ((i : Int) < (nl : Int)) = false := decide_eq_false (by omega)
              obtain rfl : i = nl := by omega
              have HM6 : Hid (HasMap wr w10.heap.size (N ++ M.take 0)) := Lib.hid (by rw [List.take_zero, List.append_nil]; have := HM5.out; rw [← HNL.out, List.take_length] at this; exact this)
              clear HM5 HCN
              go_wp2
              go_loopw [17] (fun s17 W => ∃ i : Nat, i ≤ ml ∧ s17 = .int .i64 i ∧ Below w10.heap.size w10 W ∧ HasMap W w10.heap.size (N ++ M.take i)) (fun s17 _ => ml - (intOf s17).toNat)
              case atStart => exact ⟨0, by omega, rfl, HB5.out, HM6.out⟩
              case round =>
                obtain ⟨t, hi6, rfl, hb6, hm6⟩ := hrel
                have HB6 := Lib.hid hb6
                have HM7 := Lib.hid hm6
                clear hb6 hm6
                by_cases hlt : t < ml
                · have e85 : decide ((t : Int) < (ml : Int)) = true := decide_eq_true (by omega)
                  obtain ⟨b1, o1, rfl, hcell⟩ := HCM.out wr HB6.out t hlt
                  have HS := Lib.hid (take_snocN M t (by rw [HML.out]; exact hlt))
                  have hz := (HMB.out (M.getD t 0) (by have h := HML.out; simp [List.getD, show t < M.length by omega])).2
                  obtain ⟨z, hzz⟩ : ∃ z, M.getD t 0 = z := ⟨_, rfl⟩
                  rw [hzz] at hcell HS hz
                  clear hzz
                  go_wp2_with (at_mapUpdate; refine wpList_put_has _ rfl _ _ _ rfl w10.heap.size (N ++ M.take t) z rfl rfl rfl HM7.out (by rw [List.length_append, List.length_take, HNL.out]; omega) hz ?_; intro w12 h12 g12; have H12 := Lib.hid (And.intro h12 g12); clear h12 g12)
                  have h12 : Below w10.heap.size w10 w12 := HB6.out.grown H12.out.2 HB6.out.size (fun k hk => by cases hk; exact Nat.le_refl _)
                  exact ⟨⟨t + 1, by omega, by go_num, h12, by rw [HS.out, ← List.append_assoc]; exact H12.out.1⟩, by simp [intOf]; omega⟩
                · have e85 : decide ((t : Int) < (ml : Int)) = false := decide_eq_false (by omega)
                  obtain rfl : t = ml := by omega
                  have HM8 : Hid (HasMap wr w10.heap.size (N ++ M)) := Lib.hid (by have := HM7.out; rw [← HML.out, List.take_length] at this; exact this)
                  have hlenm : ∀ ty, (Builtin.len_ #[43] ty #[.map (some w10.heap.size)]).run Tryd.prog wr = .ok (.int .i64 (al : Int)) wr := fun ty => by
                    have := HM8.out.len ty
                    rw [HA.out, HAL.out] at this
                    exact this
                  have e97 : ((al : Int) != (al : Int)) = false := by simp
                  clear HM7 HCM hi5 hi6
                  go_wp2
                  clear hlenm
                  have HC7 : Hid (∀ W, Below wr.heap.size wr W → ∀ i, i < al → (∃ b o, ada = some ⟨b, o, none⟩ ∧ W.cell? ⟨b, o + i, none⟩ = some (.int .i64 ((A.getD i 0 : Nat) : Int))) ∧ HasMap W w10.heap.size (N ++ M)) := Lib.hid fun W hW i hi => ⟨HCA.out W (HB6.out.trans (hW.mono HB6.out.size)) i hi, HM8.out.below hW⟩
                  have HA1 : Hid (∀ i, i < al → A.getD i 0 ∈ N ++ M ∧ A.getD i 0 ≤ 1000000000) := Lib.hid fun i hi => by
                    have h0 := HAL.out
                    have h1 := HAM.out (A.getD i 0) (by simp [List.getD, show i < A.length by omega])
                    refine ⟨h1, ?_⟩
                    rcases List.mem_append.1 h1 with h | h
                    · exact (HNB.out _ h).2
                    · exact (HMB.out _ h).2
                  have HA2 : Hid (∀ i, i + 1 < al → A.getD i 0 < A.getD (i + 1) 0) := Lib.hid fun i hi => by
                    have h0 := HAL.out
                    have := List.pairwise_iff_getElem.1 HAR.out i (i + 1) (by omega) (by omega) (by omega)
                    simpa [List.getD, show i < A.length by omega, show i + 1 < A.length by omega] using this
                  have HBW : Hid (Below w.heap.size w wr) := Lib.hid (Below.next HW10.out HB6.out)
                  clear HCA HAM HAR HM8 HNB HMB HA HB6 HW10 HB5
                  generalize w10.heap.size = hm at HC7 ⊢
                  go_loopw [18] (fun s18 W => ∃ i : Nat, i ≤ al ∧ s18 = .int .i64 i ∧ Below wr.heap.size wr W) (fun s18 _ => al - (intOf s18).toNat)
                  case atStart => exact ⟨0, by omega, rfl, Below.refl _ _⟩
                  case round =>
                    obtain ⟨i, hi7, rfl, hb7⟩ := hrel
                    have HB7 := Lib.hid hb7
                    clear hb7
                    by_cases hlt : i < al
                    · have e101 : decide ((i : Int) < (al : Int)) = true := decide_eq_true (by omega)
                      obtain ⟨⟨b1, o1, rfl, c0⟩, hmap⟩ := HC7.out _ HB7.out i hlt
                      obtain ⟨hin, hbd⟩ := HA1.out i hlt
                      have hil : (i : Int) < (al : Int) := by omega
                      have hwi : IntKind.i64.wrap (i : Int) = (i : Int) := IntWalk.i64_in _ (by omega)
                      have gc0 := fun d os => cell_regrown c0 d os
                      have hlook0 : ∀ d os, (Instr.lookup 43 (.map (some hm)) (.int .i64 ((A.getD i 0 : Nat) : Int)) false).run Tryd.prog (Sort.grow (redrawn wr d) os) = .ok (.int .i64 1) (Sort.grow (redrawn wr d) os) := fun d os => (HC7.out _ (Below.next HB7.out (below_regrown wr d os)) i hlt).2.look _ hbd hin
                      have hA2 := HA2.out
                      obtain ⟨z, hz⟩ : ∃ z, A.getD i 0 = z := ⟨_, rfl⟩
                      rw [hz] at gc0 hlook0
                      have hi9 : i ≤ 1000 := by omega
                      rcases Nat.eq_zero_or_pos i with hi0 | hi0
                      · have f3 : decide (0 < (i : Int)) = false := decide_eq_false (by omega)
                        have f3' : decide (0 < i) = false := decide_eq_false (by omega)
                        clear hi0 c0 hmap hin hbd hz hA2
                        go_upto_region 29 with fail
                        refine wp_region_quiet_below (by kernel_rfl) (by kernel_rfl) ?_
                        repeat (go_big_quiet_step (fail))
                        refine wpQuiet_nil ?_
                        intro _ hw'
                        obtain ⟨⟨dq, osq⟩, hw''⟩ := hw'
                        subst hw''
                        have HBQ := Lib.hid (Below.next HB7.out (below_regrown wr dq osq))
                        generalize Sort.grow (redrawn wr dq) osq = w14 at HBQ ⊢
                        clear gc0 hlook0
                        go_wp2_with fail
                        exact ⟨⟨i + 1, by omega, by go_num, HBQ.out⟩, by simp [intOf]; omega⟩
                      · obtain ⟨t, ht⟩ : ∃ t, t + 1 = i := ⟨i - 1, by omega⟩
                        have htl : t < al := by omega
                        obtain ⟨⟨b2, o2, he, c1⟩, -⟩ := HC7.out _ HB7.out t htl
                        cases he
                        have f3 : decide (0 < (i : Int)) = true := decide_eq_true (by omega)
                        have f3' : decide (0 < i) = true := decide_eq_true (by omega)
                        have hlt2 := hA2 t (by omega)
                        rw [ht, hz] at hlt2
                        obtain ⟨y, hy⟩ : ∃ y, A.getD t 0 = y := ⟨_, rfl⟩
                        rw [hy] at hlt2 c1
                        have gc1 := fun d os => cell_regrown c1 d os
                        have hji : (i : Int) - 1 = (t : Int) := by omega
                        have hji2 : IntKind.i64.wrap (t : Int) = (t : Int) := IntWalk.i64_in _ (by omega)
                        have f4 : decide ((z : Int) ≤ (y : Int)) = false := decide_eq_false (by omega)
                        have f4' : decide (z ≤ y) = false := decide_eq_false (by omega)
                        clear hi0 c0 hmap hin hbd hz hA2 c1 hy ht hlt2
                        go_upto_region 29 with fail
                        refine wp_region_quiet_below (by kernel_rfl) (by kernel_rfl) ?_
                        repeat (go_big_quiet_step (fail))
                        refine wpQuiet_nil ?_
                        intro _ hw'
                        obtain ⟨⟨dq, osq⟩, hw''⟩ := hw'
                        subst hw''
                        have HBQ := Lib.hid (Below.next HB7.out (below_regrown wr dq osq))
                        generalize Sort.grow (redrawn wr dq) osq = w14 at HBQ ⊢
                        clear gc0 hlook0 gc1
                        go_wp2_with fail
                        exact ⟨⟨i + 1, by omega, by go_num, HBQ.out⟩, by simp [intOf]; omega⟩
                    · have e101 : decide ((i : Int) < (al : Int)) = false := decide_eq_false (by omega)
                      go_wp2
                      exact ⟨⟨k + 1, by omega, by omega, by go_num, Below.next HBW.out HB7.out⟩, by simp [intOf]; omega⟩
    · have e22 : decide ((k : Int) ≤ 4) = false := decide_eq_false (by omega)
      have hk4 : ¬ (k : Int) ≤ 4 := by omega
      go_wp2
      go_ret
      exact ⟨rfl, HB.out⟩
end Go.Proofs.YtioilknfjccfeaaDoor

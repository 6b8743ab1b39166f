/-
  NameTells: the walk.
-/
import Derived.Test.YtioilknfjccfeaaDoorNText
import Derived.Test.YtioilknfjccfeaaDoorNNumM
import Derived.Deep.RegionHeldLaw
import Derived.Deep.DeepCutAuto
import Derived.Deep.CutRange
import Derived.Deep.CutBlock
namespace Go.Proofs.YtioilknfjccfeaaDoor
open Go.RowKit Go.Sort

theorem row_form {w : World} {base size n : Nat} {e : TypeId} {v : Value} {xs : List Value} (h : w.ownsRow base e size v n xs) : ∃ ad c, v = .slice ad n c := by
  rcases h.2 with ⟨rfl, h0⟩ | ⟨g, cap, cur, rfl, _⟩
  · exact ⟨none, 0, by rw [h0]⟩
  · exact ⟨_, cap, rfl⟩

set_option maxHeartbeats 20000000 in
set_option maxRecDepth 100000 in
theorem nameTells_walk (kd n : Int) (l : List Piece) (v : Value) (w : World) (hT : Tabs w) (_hk0 : -9223372036854775808 ≤ kd) (_hk1 : kd ≤ 9223372036854775807) (_hn0 : -9223372036854775808 ≤ n) (_hn1 : n ≤ 9223372036854775807) (hv : Pieces w v l) :
    Calls Tryd.prog 3 #[.int .i64 kd, .int .i64 n, v] w fun e w' => e = .returned (.bool true) ∧ Below w.heap.size w w' := by
  have HT := Lib.hid (fun W (hW : Below w.heap.size w W) => hT.below hW)
  obtain ⟨ad, c, rfl, hc⟩ := hv
  have HC : Hid (∀ W, Below w.heap.size w W → ∀ i, i < l.length → (l.getD i default).ok ∧ ∃ b o, ad = some ⟨b, o, none⟩ ∧ PieceAt W b (o + i * 3) (l.getD i default)) := Lib.hid fun W hW i hi => by
    obtain ⟨hok, b, o, ha, hlt, hp⟩ := hc i hi
    exact ⟨hok, b, o, ha, hp.below hW hlt⟩
  obtain ⟨i0, hi, hz0, hz1, hz2⟩ := i9'
  clear hT hc
  go_enter Tryd.func3, Tryd.ntmps3
  go_wp2
  go_loopw [7, 8] (fun s7 s8 wr => ∃ (i nl : Nat) (L : List ByteArray), i ≤ 30 ∧ i ≤ l.length ∧ s8 = .int .i64 i ∧ L.length = nl ∧ nl ≤ 6 * i ∧ (∀ x ∈ L, x.size ≤ 100) ∧ wr.ownsRow w.heap.size 9 1 s7 nl (strs L) ∧ Below w.heap.size w wr) (fun _ s8 _ => 30 - (intOf s8).toNat)
  case atStart => exact ⟨0, 0, [], by omega, by omega, rfl, rfl, by omega, fun x hx => by simp at hx, World.ownsRow_nil w w.heap.size 9 1, Below.refl _ _⟩
  case round =>
    obtain ⟨i, nl, L, hi30, hil, rfl, hLl, hnl, hLz, hown, hb⟩ := hrel
    have HLL := Lib.hid hLl
    have HLZ := Lib.hid hLz
    have HB := Lib.hid hb
    have hnl180 : nl ≤ 180 := by omega
    clear hLl hLz hb
    by_cases hlk : i < l.length ∧ i < 30
    · obtain ⟨hlt, h30⟩ := hlk
      obtain ⟨⟨ok0, ok1, ok2⟩, b, o, rfl, c0, c1, c2⟩ := HC.out wr HB.out i hlt
      have HCP : Hid (∀ W, Below w.heap.size w W → PieceAt W b (o + i * 3) (l.getD i default)) := Lib.hid fun W hW => by
        obtain ⟨_, b2, o2, hb2, hd⟩ := HC.out W hW i hlt
        cases hb2
        exact hd
      obtain ⟨⟨ph, pn, pt⟩, hp⟩ : ∃ p, l.getD i default = p := ⟨_, rfl⟩
      rw [hp] at c0 c1 c2 ok0 ok1 ok2 HCP
      simp only at c0 c1 c2 ok0 ok1 ok2
      clear hp
      have e19 : decide ((i : Int) < (l.length : Int)) = true := decide_eq_true (by omega)
      have e22 : decide ((i : Int) < 30) = true := decide_eq_true (by omega)
      have hil' : (i : Int) < (l.length : Int) := by omega
      have h30' : (i : Int) < 30 := by omega
      have hwi : IntKind.i64.wrap (i : Int) = (i : Int) := IntWalk.i64_in _ (by omega)
      obtain ⟨adn, cn, rfl⟩ := row_form hown
      have hownL : wr.ownsRow w.heap.size 9 1 (.slice adn nl cn) L.length (strs L) := by rw [HLL.out]; exact hown
      have q7 := Lib.hid (fun W => text_any ph pn pt ok0 ok1 ok2 W)
      obtain ⟨kp, hkp, m1, m3, m4⟩ := cut_any pt 30
      have m1 : min (pt.size : Int) 30 = (kp : Int) := m1
      have m1' : (if (pt.size : Int) < 30 then (pt.size : Int) else 30) = (kp : Int) := by omega
      have m1'' : (if (30 : Int) < (pt.size : Int) then 30 else (pt.size : Int)) = (kp : Int) := by omega
      have m2 : (kp : Int) ≤ (pt.size : Int) := by omega
      have hxz : (pt.extract 0 kp).size ≤ 100 := by rw [ByteArray.size_extract]; omega
      have HXZ := Lib.hid hxz
      have hlen2 : L.length + 2 ≤ 1000000 := by rw [HLL.out]; omega
      have hbel := HB.out
      clear hkp hxz hown
      have HCW : Hid (∀ W, Below w.heap.size w W → W.cell? ⟨b, o + i * 3, none⟩ = some (.int .u8 (ph : Int)) ∧ W.cell? ⟨b, o + i * 3 + 1, none⟩ = some (.int .u32 (pn : Int)) ∧ W.cell? ⟨b, o + i * 3 + 2, none⟩ = some (.string pt) ∧ Below w.heap.size w W) := Lib.hid fun W hW => by
        have h := HCP.out W hW
        exact ⟨h.1, h.2.1, h.2.2, hW⟩
      go_upto_region 5 with fail
      go_cut [7] from 26 to 46 (fun s7 wx => ∃ (L' : List ByteArray), L'.length = nl + 2 ∧ (∀ x ∈ L', x.size ≤ 100) ∧ wx.ownsRow w.heap.size 9 1 s7 (nl + 2) (strs L') ∧ Below w.heap.size w wx)
      case first =>
        go_region_held_law (fun W => W.cell? ⟨b, o + i * 3, none⟩ = some (.int .u8 (ph : Int)) ∧ W.cell? ⟨b, o + i * 3 + 1, none⟩ = some (.int .u32 (pn : Int)) ∧ W.cell? ⟨b, o + i * 3 + 2, none⟩ = some (.string pt) ∧ Below w.heap.size w W)
          ((refine HCW.out _ ?_; repeat (first | (with_reducible assumption) | (with_reducible apply below_drew') | (with_reducible apply below_alloc'))))
          (first
            | (refine step_append_strs (w0 := w) rfl (.tmp 26) (.tmp 45) rfl rfl (.slice adn nl cn) (.slice (some ⟨_, 0, none⟩) 2 2) L [T, pt.extract 0 kp] rfl rfl (by repeat (first | (with_reducible assumption) | (with_reducible apply below_drew') | (with_reducible apply below_alloc'))) (by repeat (first | (with_reducible assumption) | (with_reducible apply owns_drew') | (with_reducible apply World.ownsRow.alloc))) (by repeat (first | (with_reducible exact strs_two rfl) | (with_reducible apply strs_drew'))) (by simpa using hlen2) ?_; intro v' w' o1 g1 b1)
            | (go_at_call 7; (with_reducible refine (q7.out _).mono ?_); rintro e w3 ⟨⟨T, rfl, hTz⟩, hb3⟩; have hb4 : Below wr.heap.size wr w3 := Below.next (by repeat (first | (with_reducible exact Below.refl _ _) | (with_reducible apply below_drew') | (with_reducible apply below_alloc'))) hb3; have hbel3 := Below.next HB.out hb4; have hown3 := hownL.kept (grown_of_below hb4) (by cases Value.ownBlock _ <;> simp); have HTZ := Lib.hid hTz; clear hb3 hb4 hTz))
        all_goals (simp only [Act.put, List.getElem_toArray, List.getElem_cons_succ, List.getElem_cons_zero, List.setIfInBounds_toArray, List.set_cons_zero, List.set_cons_succ])
        all_goals go_wp2_with fail
        all_goals go_meet
        all_goals
          refine ⟨L ++ [T, pt.extract 0 kp], by rw [List.length_append, HLL.out]; rfl, fun x hx => ?_, ?_, b1⟩
          · rcases List.mem_append.1 hx with hx | hx
            · exact HLZ.out x hx
            · simp only [List.mem_cons, List.not_mem_nil, or_false] at hx
              rcases hx with rfl | rfl
              · have := HTZ.out; omega
              · exact HXZ.out
          · rw [List.length_append, HLL.out] at o1
            exact o1
      case rest =>
      obtain ⟨L', hL'l, hL'z, hown', hb'⟩ := hcut
      have HLL' := Lib.hid hL'l
      have HLZ' := Lib.hid hL'z
      have HB' := Lib.hid hb'
      have hm1 : (pn : Int).tmod 2000 = ((pn % 2000 : Nat) : Int) := by rw [Int.tmod_eq_emod_of_nonneg (by omega)]; omega
      have hm2 : (pn : Int) % 2000 = ((pn % 2000 : Nat) : Int) := by omega
      obtain ⟨pm, hpm⟩ : ∃ pm, pn % 2000 = pm := ⟨_, rfl⟩
      have hpm2 : pm < 2000 := by omega
      rw [hpm] at hm1 hm2
      have hwpm : IntKind.i64.wrap (pm : Int) = (pm : Int) := IntWalk.i64_in _ (by omega)
      have hwpn : IntKind.i64.wrap (pn : Int) = (pn : Int) := IntWalk.i64_in _ (by omega)
      have Q8 := Lib.hid (fun (W : World) (k z : Nat) => refMake_any (k : Int) (z : Int) W)
      have hnl' : nl + 2 ≤ 6 * i + 2 := by omega
      clear hL'l hL'z hb' hpm m1 m1' m1'' m2 m3 m4 hlen2 hbel hownL HXZ q7 c0 c1 c2 HCP HLL HLZ HB ok0 ok1 ok2
      go_wp2_with fail
      go_loopw [7, 9] (fun s7 s9 wq => ∃ (k ml : Nat) (A : List ByteArray), 3 ≤ k ∧ k ≤ 5 ∧ s9 = .int .i64 k ∧ A.length = ml ∧ ml ≤ 6 * i + 2 + 2 * (k - 3) ∧ (∀ x ∈ A, x.size ≤ 100) ∧ wq.ownsRow w.heap.size 9 1 s7 ml (strs A) ∧ Below w.heap.size w wq) (fun _ s9 _ => 5 - (intOf s9).toNat)
      case atStart => exact ⟨3, nl + 2, L', by omega, by omega, rfl, HLL'.out, by omega, HLZ'.out, hown', HB'.out⟩
      case round =>
        obtain ⟨k, ml, A, hk3, hk5, rfl, hAl, hml, hAz, hownA, hb2⟩ := hrel
        have HAL := Lib.hid hAl
        have HAZ := Lib.hid hAz
        have HB2 := Lib.hid hb2
        clear hAl hAz hb2
        by_cases hk : k < 5
        · have e48 : decide ((k : Int) ≤ 4) = true := decide_eq_true (by omega)
          have hk4 : (k : Int) ≤ 4 := by omega
          obtain ⟨ada, ca, rfl⟩ := row_form hownA
          have hownL : wr.ownsRow w.heap.size 9 1 (.slice ada ml ca) A.length (strs A) := by rw [HAL.out]; exact hownA
          obtain ⟨c0, c1, c2, hbel⟩ := HCW.out wr HB2.out
          have hlen2 : A.length + 2 ≤ 1000000 := by rw [HAL.out]; omega
          have Q8a := Lib.hid (fun W => Q8.out W k pm)
          have Q8b := Lib.hid (fun W => Q8.out W k pn)
          have hza := Plain.make_size_any (k : Int) (pm : Int)
          have hzb := Plain.make_size_any (k : Int) (pn : Int)
          obtain ⟨U, hU⟩ : ∃ U, Plain.makeT (k : Int) (pm : Int) = U := ⟨_, rfl⟩
          obtain ⟨V, hV⟩ : ∃ V, Plain.makeT (k : Int) (pn : Int) = V := ⟨_, rfl⟩
          rw [hU] at Q8a hza
          rw [hV] at Q8b hzb
          have HZA := Lib.hid hza
          have HZB := Lib.hid hzb
          clear hU hV hza hzb hownA
          go_upto_region 9 with fail
          go_region_held_law (fun W => W.cell? ⟨b, o + i * 3, none⟩ = some (.int .u8 (ph : Int)) ∧ W.cell? ⟨b, o + i * 3 + 1, none⟩ = some (.int .u32 (pn : Int)) ∧ W.cell? ⟨b, o + i * 3 + 2, none⟩ = some (.string pt) ∧ Below w.heap.size w W)
            ((refine HCW.out _ ?_; repeat (first | (with_reducible assumption) | (with_reducible apply below_drew') | (with_reducible apply below_alloc'))))
            (first
              | (refine step_append_strs (w0 := w) rfl (.tmp 51) (.tmp 69) rfl rfl (.slice ada ml ca) (.slice (some ⟨_, 0, none⟩) 2 2) A [U, V] rfl rfl (by repeat (first | (with_reducible assumption) | (with_reducible apply below_drew') | (with_reducible apply below_alloc'))) (by repeat (first | (with_reducible assumption) | (with_reducible apply owns_drew') | (with_reducible apply World.ownsRow.alloc))) (by repeat (first | (with_reducible exact strs_two rfl) | (with_reducible apply strs_drew'))) (by simpa using hlen2) ?_; intro v' w' o1 g1 b1)
              | (go_at_call 8; first
                  | ((with_reducible refine (Q8a.out _).mono ?_); rintro e w3 ⟨rfl, hb3⟩; have hb4 : Below wr.heap.size wr w3 := Below.next (by repeat (first | (with_reducible assumption) | (with_reducible exact Below.refl _ _) | (with_reducible apply below_drew') | (with_reducible apply below_alloc'))) hb3; have hbel3 := Below.next HB2.out hb4; have hown3 := hownL.kept (grown_of_below hb4) (by cases Value.ownBlock _ <;> simp); clear hb3)
                  | ((with_reducible refine (Q8b.out _).mono ?_); rintro e w3 ⟨rfl, hb3⟩; have hb4 : Below wr.heap.size wr w3 := Below.next (by repeat (first | (with_reducible assumption) | (with_reducible exact Below.refl _ _) | (with_reducible apply below_drew') | (with_reducible apply below_alloc'))) hb3; have hbel3 := Below.next HB2.out hb4; have hown3 := hownL.kept (grown_of_below hb4) (by cases Value.ownBlock _ <;> simp); clear hb3)))
          all_goals (simp only [Act.put, List.getElem_toArray, List.getElem_cons_succ, List.getElem_cons_zero, List.setIfInBounds_toArray, List.set_cons_zero, List.set_cons_succ])
          all_goals go_wp2_with fail
          all_goals
            refine ⟨⟨k + 1, ml + 2, A ++ [U, V], by omega, by omega, by go_num, by rw [List.length_append, HAL.out]; rfl, by omega, fun x hx => ?_, ?_, b1⟩, by simp [intOf]; omega⟩
            · rcases List.mem_append.1 hx with hx | hx
              · exact HAZ.out x hx
              · simp only [List.mem_cons, List.not_mem_nil, or_false] at hx
                rcases hx with rfl | rfl
                · have := HZA.out; omega
                · have := HZB.out; omega
            · rw [List.length_append, HAL.out] at o1
              exact o1
        · have e48 : decide ((k : Int) ≤ 4) = false := decide_eq_false (by omega)
          have hk4 : ¬ (k : Int) ≤ 4 := by omega
          obtain rfl : k = 5 := by omega
          go_wp2_with fail
          exact ⟨⟨i + 1, ml, A, by omega, by omega, by go_num, HAL.out, by omega, HAZ.out, hownA, HB2.out⟩, by simp [intOf]; omega⟩
    · have HSL := Lib.hid (strs_of_owns (l := L) (by rw [HLL.out]; exact hown))
      obtain ⟨adn, cn, rfl⟩ := row_form hown
      have HCL : Hid (∀ W, Below wr.heap.size wr W → ∀ j, j < nl → (L.getD j ⟨#[]⟩).size ≤ 281474976710656 ∧ ∃ b o, adn = some ⟨b, o, none⟩ ∧ W.cell? ⟨b, o + j, none⟩ = some (.string (L.getD j ⟨#[]⟩))) := by
        obtain ⟨a', c', he, hc⟩ := strs_cells HSL.out
        cases he
        rw [HLL.out] at hc
        exact Lib.hid fun W hW j hj => ⟨by have := HLZ.out (L.getD j ⟨#[]⟩) (by have := HLL.out; simp [List.getD, show j < L.length by omega]); omega, hc W hW j hj⟩
      have HFINE : Hid (Fine L) := Lib.hid (fine_of fun x hx => by have := HLZ.out x hx; omega)
      have C13 : Hid (∀ W, Below wr.heap.size wr W → ∀ k : Int, Calls Tryd.prog 13 #[.int .i64 k, .slice adn nl cn] W fun e w' => (∃ r, e = .returned r ∧ Ints w' r (Plain.numsT k L)) ∧ Below W.heap.size W w') := Lib.hid fun W hW k => numbers_any k L _ W (HT.out W (Below.next HB.out hW)) (HSL.out.below hW) HFINE.out (by rw [HLL.out]; omega)
      have C14 : Hid (∀ W, Below wr.heap.size wr W → ∀ k : Int, Calls Tryd.prog 14 #[.int .i64 k, .slice adn nl cn] W fun e w' => (∃ r, e = .returned r ∧ Ints w' r (Plain.numsT k L)) ∧ Below W.heap.size W w') := Lib.hid fun W hW k => refNumbers_any k L _ W (HSL.out.below hW) HFINE.out (by rw [HLL.out]; omega)
      have C12 : Hid (∀ W r r' k, Ints W r (Plain.numsT k L) → Ints W r' (Plain.numsT k L) → Calls Tryd.prog 12 #[r, r'] W fun e w' => e = .returned (.bool true) ∧ Below W.heap.size W w') := Lib.hid fun W r r' k h h' => by
        have hl := Plain.numsT_length_le k L
        rw [HLL.out] at hl
        have := ints_any _ _ r r' W h h' (by omega) (by omega)
        simpa using this
      have C11 : Hid (∀ W, Below wr.heap.size wr W → ∀ k z : Int, Calls Tryd.prog 11 #[.int .i64 k, .int .i64 z] W fun e w' => e = .returned (.string (Plain.makeT k z)) ∧ Below W.heap.size W w') := Lib.hid fun W hW k z => make_any k z W (HT.out W (Below.next HB.out hW))
      have C8 := Lib.hid (fun (W : World) (k z : Int) => refMake_any k z W)
      have C15 := Lib.hid (fun W (hW : Below wr.heap.size wr W) => works_any W (HT.out W (Below.next HB.out hW)))
      have HBW := HB
      obtain ⟨wz, hwz⟩ : ∃ wz, wz = wr := ⟨_, rfl⟩
      subst hwz
      have hor : (i < l.length ∧ ¬ i < 30) ∨ ¬ i < l.length := by omega
      clear hown HC hlk hi hz0 hz1 hz2 hnl HSL HFINE
      rcases hor with ⟨h1, h2⟩ | h1
      · have e19 : decide ((i : Int) < (l.length : Int)) = true := decide_eq_true (by omega)
        have e22 : decide ((i : Int) < 30) = false := decide_eq_false (by omega)
        go_wp2_with fail
        go_loopw [10] (fun s10 W => ∃ j : Nat, j ≤ nl ∧ s10 = .int .i64 j ∧ Below wz.heap.size wz W) (fun s10 _ => nl - (intOf s10).toNat)
        case atStart => exact ⟨0, by omega, rfl, Below.refl _ _⟩
        case round =>
          obtain ⟨j, hj, rfl, hb3⟩ := hrel
          have HB3 := Lib.hid hb3
          clear hb3
          by_cases hlt : j < nl
          · have e74 : decide ((j : Int) < (nl : Int)) = true := decide_eq_true (by omega)
            obtain ⟨hsz, b, o, rfl, hcell⟩ := HCL.out _ HB3.out j hlt
            obtain ⟨x, hx⟩ : ∃ x, L.getD j ⟨#[]⟩ = x := ⟨_, rfl⟩
            have HCL2 : Hid (∀ W, Below wr.heap.size wr W → W.cell? ⟨b, o + j, none⟩ = some (.string x)) := Lib.hid fun W hW => by
              obtain ⟨_, b2, o2, he, hc2⟩ := HCL.out W (Below.next HB3.out hW) j hlt
              cases he
              rw [← hx]
              exact hc2
            rw [hx] at hsz hcell
            have Q9 := Lib.hid (parse_any x hsz wr (HT.out _ (Below.next HBW.out HB3.out)))
            have Q10 := Lib.hid (fun W => refParse_any x hsz W)
            obtain ⟨⟨pk, pn⟩, hp⟩ : ∃ p, Plain.parseT x = p := ⟨_, rfl⟩
            rw [hp] at Q9 Q10
            clear hp hx hsz
            go_wp2_with (first
              | (go_at_call 9; (with_reducible refine Q9.out.mono ?_); rintro e w3 ⟨rfl, hb4⟩; have H3 := Lib.hid hb4; have hcell3 := HCL2.out _ hb4; clear hb4)
              | (go_at_call 10; (with_reducible refine (Q10.out _).mono ?_); rintro e w4 ⟨rfl, hb4⟩; have H4 := Lib.hid (Below.next HB3.out (Below.next H3.out hb4)); clear hb4))
            exact ⟨⟨j + 1, by omega, by go_num, H4.out⟩, by simp [intOf]; omega⟩
          · have e74 : decide ((j : Int) < (nl : Int)) = false := decide_eq_false (by omega)
            have HB3' := HB3
            clear HCL
            go_wp2_with fail
            go_loopw [15] (fun s15 W => ∃ t : Nat, t ≤ 7 ∧ s15 = .int .i64 ((t : Int) - 1) ∧ Below wz.heap.size wz W) (fun s15 _ => (6 - intOf s15).toNat)
            case atStart => exact ⟨0, by omega, rfl, HB3.out⟩
            case round =>
              obtain ⟨t, ht, rfl, hb4⟩ := hrel
              have HB4 := Lib.hid hb4
              clear hb4
              by_cases h7 : t < 7
              · obtain ⟨k, hk⟩ : ∃ k : Int, (t : Int) - 1 = k := ⟨_, rfl⟩
                have hk5 : k ≤ 5 := by omega
                have e102 : decide (k ≤ 5) = true := decide_eq_true hk5
                have hk1 : -1 ≤ k := by omega
                have HK := Lib.hid hk
                rw [hk]
                clear hk
                go_wp2_with (first
                  | (go_at_call 11; first
                      | ((with_reducible refine (C11.out _ HB4.out _ _).mono ?_); rintro e w5 ⟨rfl, hb5⟩; have H5 := Lib.hid (Below.next HB4.out hb5); clear hb5 HB4)
                      | ((with_reducible refine (C11.out _ H6.out _ _).mono ?_); rintro e w7 ⟨rfl, hb5⟩; have H7 := Lib.hid (Below.next H6.out hb5); clear hb5 H6))
                  | (go_at_call 8; first
                      | ((with_reducible refine (C8.out _ _ _).mono ?_); rintro e w6 ⟨rfl, hb5⟩; have H6 := Lib.hid (Below.next H5.out hb5); clear hb5 H5)
                      | ((with_reducible refine (C8.out _ _ _).mono ?_); rintro e w8 ⟨rfl, hb5⟩; have H8 := Lib.hid (Below.next H7.out hb5); clear hb5 H7))
                  | (go_at_call 13; (with_reducible refine (C13.out _ H8.out _).mono ?_); rintro e w9 ⟨⟨r, rfl, hr⟩, hb5⟩; have HR := Lib.hid hr; have H9 := Lib.hid (Below.next H8.out hb5); clear hb5 hr)
                  | (go_at_call 14; (with_reducible refine (C14.out _ H9.out _).mono ?_); rintro e w10 ⟨⟨r', rfl, hr⟩, hb5⟩; have HR' := Lib.hid hr; have HR2 := Lib.hid (HR.out.below hb5); have H10 := Lib.hid (Below.next H9.out hb5); clear hb5 hr)
                  | (go_at_call 12; (with_reducible refine (C12.out _ _ _ _ HR2.out HR'.out).mono ?_); rintro e w11 ⟨rfl, hb5⟩; have H11 := Lib.hid (Below.next H10.out hb5); clear hb5))
                exact ⟨⟨t + 1, by omega, by rw [← HK.out]; congr 1; omega, H11.out⟩, by simp [intOf]; omega⟩
              · obtain rfl : t = 7 := by omega
                have e102 : decide (((7 : Nat) : Int) - 1 ≤ 5) = false := decide_eq_false (by omega)
                go_wp2_with (first
                  | (go_at_call 11; (with_reducible refine (C11.out _ HB4.out _ _).mono ?_); rintro e w5 ⟨rfl, hb5⟩; have H5 := Lib.hid (Below.next HB4.out hb5); clear hb5)
                  | (go_at_call 8; (with_reducible refine (C8.out _ _ _).mono ?_); rintro e w6 ⟨rfl, hb5⟩; have H6 := Lib.hid (Below.next H5.out hb5); clear hb5)
                  | (go_at_call 15; (with_reducible refine (C15.out _ H6.out).mono ?_); rintro e w7 ⟨rfl, hb5⟩; have H7 := Lib.hid (Below.next H6.out hb5); clear hb5))
                go_ret
                exact ⟨rfl, Below.next HBW.out H7.out⟩
      · have e19 : decide ((i : Int) < (l.length : Int)) = false := decide_eq_false (by omega)
        go_wp2_with fail
        go_loopw [10] (fun s10 W => ∃ j : Nat, j ≤ nl ∧ s10 = .int .i64 j ∧ Below wz.heap.size wz W) (fun s10 _ => nl - (intOf s10).toNat)
        case atStart => exact ⟨0, by omega, rfl, Below.refl _ _⟩
        case round =>
          obtain ⟨j, hj, rfl, hb3⟩ := hrel
          have HB3 := Lib.hid hb3
          clear hb3
          by_cases hlt : j < nl
          · have e74 : decide ((j : Int) < (nl : Int)) = true := decide_eq_true (by omega)
            obtain ⟨hsz, b, o, rfl, hcell⟩ := HCL.out _ HB3.out j hlt
            obtain ⟨x, hx⟩ : ∃ x, L.getD j ⟨#[]⟩ = x := ⟨_, rfl⟩
            have HCL2 : Hid (∀ W, Below wr.heap.size wr W → W.cell? ⟨b, o + j, none⟩ = some (.string x)) := Lib.hid fun W hW => by
              obtain ⟨_, b2, o2, he, hc2⟩ := HCL.out W (Below.next HB3.out hW) j hlt
              cases he
              rw [← hx]
              exact hc2
            rw [hx] at hsz hcell
            have Q9 := Lib.hid (parse_any x hsz wr (HT.out _ (Below.next HBW.out HB3.out)))
            have Q10 := Lib.hid (fun W => refParse_any x hsz W)
            obtain ⟨⟨pk, pn⟩, hp⟩ : ∃ p, Plain.parseT x = p := ⟨_, rfl⟩
            rw [hp] at Q9 Q10
            clear hp hx hsz
            go_wp2_with (first
              | (go_at_call 9; (with_reducible refine Q9.out.mono ?_); rintro e w3 ⟨rfl, hb4⟩; have H3 := Lib.hid hb4; have hcell3 := HCL2.out _ hb4; clear hb4)
              | (go_at_call 10; (with_reducible refine (Q10.out _).mono ?_); rintro e w4 ⟨rfl, hb4⟩; have H4 := Lib.hid (Below.next HB3.out (Below.next H3.out hb4)); clear hb4))
            exact ⟨⟨j + 1, by omega, by go_num, H4.out⟩, by simp [intOf]; omega⟩
          · have e74 : decide ((j : Int) < (nl : Int)) = false := decide_eq_false (by omega)
            have HB3' := HB3
            clear HCL
            go_wp2_with fail
            go_loopw [15] (fun s15 W => ∃ t : Nat, t ≤ 7 ∧ s15 = .int .i64 ((t : Int) - 1) ∧ Below wz.heap.size wz W) (fun s15 _ => (6 - intOf s15).toNat)
            case atStart => exact ⟨0, by omega, rfl, HB3.out⟩
            case round =>
              obtain ⟨t, ht, rfl, hb4⟩ := hrel
              have HB4 := Lib.hid hb4
              clear hb4
              by_cases h7 : t < 7
              · obtain ⟨k, hk⟩ : ∃ k : Int, (t : Int) - 1 = k := ⟨_, rfl⟩
                have hk5 : k ≤ 5 := by omega
                have e102 : decide (k ≤ 5) = true := decide_eq_true hk5
                have hk1 : -1 ≤ k := by omega
                have HK := Lib.hid hk
                rw [hk]
                clear hk
                go_wp2_with (first
                  | (go_at_call 11; first
                      | ((with_reducible refine (C11.out _ HB4.out _ _).mono ?_); rintro e w5 ⟨rfl, hb5⟩; have H5 := Lib.hid (Below.next HB4.out hb5); clear hb5 HB4)
                      | ((with_reducible refine (C11.out _ H6.out _ _).mono ?_); rintro e w7 ⟨rfl, hb5⟩; have H7 := Lib.hid (Below.next H6.out hb5); clear hb5 H6))
                  | (go_at_call 8; first
                      | ((with_reducible refine (C8.out _ _ _).mono ?_); rintro e w6 ⟨rfl, hb5⟩; have H6 := Lib.hid (Below.next H5.out hb5); clear hb5 H5)
                      | ((with_reducible refine (C8.out _ _ _).mono ?_); rintro e w8 ⟨rfl, hb5⟩; have H8 := Lib.hid (Below.next H7.out hb5); clear hb5 H7))
                  | (go_at_call 13; (with_reducible refine (C13.out _ H8.out _).mono ?_); rintro e w9 ⟨⟨r, rfl, hr⟩, hb5⟩; have HR := Lib.hid hr; have H9 := Lib.hid (Below.next H8.out hb5); clear hb5 hr)
                  | (go_at_call 14; (with_reducible refine (C14.out _ H9.out _).mono ?_); rintro e w10 ⟨⟨r', rfl, hr⟩, hb5⟩; have HR' := Lib.hid hr; have HR2 := Lib.hid (HR.out.below hb5); have H10 := Lib.hid (Below.next H9.out hb5); clear hb5 hr)
                  | (go_at_call 12; (with_reducible refine (C12.out _ _ _ _ HR2.out HR'.out).mono ?_); rintro e w11 ⟨rfl, hb5⟩; have H11 := Lib.hid (Below.next H10.out hb5); clear hb5))
                exact ⟨⟨t + 1, by omega, by rw [← HK.out]; congr 1; omega, H11.out⟩, by simp [intOf]; omega⟩
              · obtain rfl : t = 7 := by omega
                have e102 : decide (((7 : Nat) : Int) - 1 ≤ 5) = false := decide_eq_false (by omega)
                go_wp2_with (first
                  | (go_at_call 11; (with_reducible refine (C11.out _ HB4.out _ _).mono ?_); rintro e w5 ⟨rfl, hb5⟩; have H5 := Lib.hid (Below.next HB4.out hb5); clear hb5)
                  | (go_at_call 8; (with_reducible refine (C8.out _ _ _).mono ?_); rintro e w6 ⟨rfl, hb5⟩; have H6 := Lib.hid (Below.next H5.out hb5); clear hb5)
                  | (go_at_call 15; (with_reducible refine (C15.out _ H6.out).mono ?_); rintro e w7 ⟨rfl, hb5⟩; have H7 := Lib.hid (Below.next H6.out hb5); clear hb5))
                go_ret
                exact ⟨rfl, Below.next HBW.out H7.out⟩
end Go.Proofs.YtioilknfjccfeaaDoor

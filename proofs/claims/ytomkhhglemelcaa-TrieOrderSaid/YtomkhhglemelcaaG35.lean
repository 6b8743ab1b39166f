/-
  TrieOrder: the walk.
-/
import Derived.Test.YtomkhhglemelcaaG34
import Derived.Deep.CutBlock
import Derived.Deep.DeepCutAuto
set_option linter.unusedVariables false
set_option linter.unusedSimpArgs false
namespace Go.Proofs.Ytomkhhglemelcaa
open Go.RowKit Go.Shelf

theorem less_asym' {a b : List UInt8} (h : Plain.less a b = true) : Plain.less b a = false := by
  cases e : Plain.less b a with
  | false => rfl
  | true =>
    have h1 : ltE ⟨⟨a.toArray⟩, 0, false⟩ ⟨⟨b.toArray⟩, 0, false⟩ = true := h
    have h2 : ltE ⟨⟨b.toArray⟩, 0, false⟩ ⟨⟨a.toArray⟩, 0, false⟩ = true := e
    have := ltE_trans h1 h2
    rw [ltE_irrefl] at this
    cases this

theorem run_neE (x y : Ent) (w : World) : Sem.run Try.prog (binOp .neq 33 (.agg (enc x).toArray) (.agg (enc y).toArray)) w = .ok (.bool (!eqE x y)) w := by
  have u9 := Try.underlying9
  have a9 := Try.isAgg9
  have z9 := Try.sizeOf9
  have u22 := Try.underlying31
  have a22 := Try.isAgg31
  have z22 := Try.sizeOf31
  have u4 := Try.underlying4
  have a4 := Try.isAgg4
  have z4 := Try.sizeOf4
  have hS : Try.prog.underlying 33 = some (.struct (Try.prog.fieldsOf 33)) := by kernel_rfl
  have hp : Try.prog.stoodInHeld 33 = false := by kernel_rfl
  unfold eqE
  simp only [enc]
  rw [run_neq_struct, show (10000 : Nat) = 9999 + 1 from rfl, run_equalIn_agg w 9999 33 _ _ hS hp]
  simp only [Program.fieldsOf, Try.underlying33]
  go_simp
  cases h1 : (x.word.toList == y.word.toList) <;> cases h2 : ((x.weight : Int) == (y.weight : Int)) <;> cases h3 : (x.gone == y.gone) <;> simp_all

set_option maxHeartbeats 16000000 in
set_option maxRecDepth 100000 in
theorem trieOrder_walk (l : List Ent) (v : Value) (n : Nat) (w : World) (hv : Ents w v l) (hlen : l.length ≤ 9223372036854775807) (hs : ∀ x ∈ l, x.word.size ≤ 9223372036854775807) (hn : n ≤ 255) :
    Calls Try.prog 4 #[v, .int .u8 (n : Int)] w fun e w' => e = .returned (.bool true) ∧ Below w.heap.size w w' := by
  have q21 := works_any w
  have hmm := @run_makeMap Try.prog
  have HV := Lib.hid hv
  have QF := Lib.hid (fun (W : World) (h : Below w.heap.size w W) => few_any l v W (HV.out.below h) hlen hs)
  clear hv
  obtain ⟨L, hL⟩ : ∃ L, L = fewE l := ⟨_, rfl⟩
  have hLl : L.length ≤ 40 := by rw [hL]; exact fewE_length l
  have hLs : ∀ x ∈ L, x.word.size ≤ 300 := by rw [hL]; exact fewE_short l
  rw [← hL] at QF
  have HLS := Lib.hid hLs
  clear hL hLs hs
  go_enter Try.func4, Try.ntmps4
  go_upto_block 0 with (first
    | (go_at_call 24; (with_reducible refine Calls.mono q21 ?_); rintro e wk ⟨rfl, hb⟩; have HB := Lib.hid hb; clear hb)
    | (go_at_call 10; (with_reducible refine Calls.mono (QF.out _ HB.out) ?_); rintro e wf ⟨vf, rfl, ho, hb⟩; obtain ⟨adf, cf, rfl, -, -, hEf⟩ := rowE_owns ho; replace HB := Lib.hid (Below.next HB.out hb); have HF := Lib.hid hEf; have HN := Lib.hid (new_ex L _ wf hEf (by omega) (fun x hx => Nat.le_trans (HLS.out x hx) (by decide))); clear hb ho hEf)
    | (go_at_call 11; (with_reducible refine Calls.mono HN.out ?_); rintro e w1 ⟨T, rfl, hT, hb⟩; replace HB := Lib.hid (Below.next HB.out hb); have HT := Lib.hid hT; have HF1 := Lib.hid (HF.out.below hb); clear hb hT))
  obtain ⟨m, hm⟩ : ∃ m, m = w1.heap.size := ⟨_, rfl⟩
  have START : Hid (HasE (w1.alloc (.map #[] 0)) m 0 (newT (L.take 0)) ∧ Below w1.heap.size w1 (w1.alloc (.map #[] 0))) := Lib.hid ⟨by rw [hm]; exact hasE_made w1, below_alloc _ _⟩
  rw [← hm]
  have hml : w1.heap.size ≤ m := by omega
  clear hm QF HN q21 hmm
  go_wp2_with fail
  go_loopw [7] (fun s7 wr => ∃ i k : Nat, i ≤ L.length ∧ k ≤ i ∧ s7 = .int .i64 i ∧ Hid (HasE wr m k (newT (L.take i)) ∧ Below w1.heap.size w1 wr)) (fun s7 _ => L.length - (intOf s7).toNat)
  case atStart => exact ⟨0, 0, Nat.zero_le _, Nat.le_refl _, rfl, START⟩
  case round =>
    obtain ⟨i, k, hi, hk, rfl, HI⟩ := hrel
    by_cases hlt : i < L.length
    · obtain ⟨ad', c', hv', hx⟩ := HF1.out
      cases hv'
      obtain ⟨b, o, rfl, hE⟩ := hx i hlt
      obtain ⟨h1, h2, h3⟩ := hE.below HI.out.2
      have hbl : b < wr.heap.size := block_lt_of_cell h1
      have hbn : b ≠ wr.heap.size := Nat.ne_of_lt hbl
      obtain ⟨x, hx'⟩ : ∃ x, x = ent L i := ⟨_, rfl⟩
      rw [← hx'] at h1 h2 h3
      have hxs : x.word.size ≤ 300 := by rw [hx']; exact HLS.out _ (ent_mem hlt)
      have hsn : newT (L.take (i + 1)) = putT (newT (L.take i)) x := by rw [List.take_succ_eq_append_getElem hlt, newT_snoc, hx', ent_lt hlt]
      have HSN := Lib.hid hsn
      have hml' : m ≠ wr.heap.size := Nat.ne_of_lt HI.out.1.lt
      have hwz := HI.out.2.size
      clear hx hx' hE hsn
      by_cases hw : wordT x.word = true
      · obtain ⟨ha, hb⟩ := wordT_true hw
        have d0 : decide ((0 : Int) < (x.word.size : Int)) = true := decide_eq_true (by omega)
        have d1 : decide ((x.word.size : Int) < 256) = true := decide_eq_true (by omega)
        have HW := Lib.hid hw
        clear hw
        cases hg : x.gone with
        | true =>
          have HP : Hid (saidE x = (0, true)) := Lib.hid (by unfold saidE; rw [if_pos hg])
          rw [hg] at h3
          have HM := Lib.hid (HI.out.1.below (below_alloc wr (.cells #[.string x.word, .int .u32 0, .bool true] 33)))
          clear hg
          go_wp2_with (at_mapUpdate; refine wpList_put_ent _ rfl _ _ _ rfl m k (newT (L.take i)) x.word (0, true) rfl rfl rfl HM.out (by omega) (by omega) ?_; intro w9 h9 g9)
          exact ⟨⟨i + 1, k + 1, by omega, by omega, by go_num, Lib.hid ⟨by rw [HSN.out]; unfold putT; rw [if_pos HW.out, HP.out]; exact h9, (below_alloc' HI.out.2).grown g9 (by simp; omega) (fun j hj => by cases hj; exact hml)⟩⟩, by simp [intOf]; omega⟩
        | false =>
          have HP : Hid (saidE x = (x.weight, false)) := Lib.hid (by unfold saidE; rw [if_neg (by rw [hg]; simp)])
          rw [hg] at h3
          have HM := Lib.hid (HI.out.1.below (below_alloc wr (.cells #[.string x.word, .int .u32 (x.weight : Int), .bool false] 33)))
          clear hg
          go_wp2_with (at_mapUpdate; refine wpList_put_ent _ rfl _ _ _ rfl m k (newT (L.take i)) x.word (x.weight, false) rfl rfl rfl HM.out (by omega) (by omega) ?_; intro w9 h9 g9)
          exact ⟨⟨i + 1, k + 1, by omega, by omega, by go_num, Lib.hid ⟨by rw [HSN.out]; unfold putT; rw [if_pos HW.out, HP.out]; exact h9, (below_alloc' HI.out.2).grown g9 (by simp; omega) (fun j hj => by cases hj; exact hml)⟩⟩, by simp [intOf]; omega⟩
      · have HT' : Hid (HasE wr m k (newT (L.take (i + 1)))) := Lib.hid (by rw [HSN.out]; unfold putT; rw [if_neg hw]; exact HI.out.1)
        have hsz : x.word.size = 0 ∨ 255 < x.word.size := by
          by_cases h : x.word.size = 0
          · exact .inl h
          · refine .inr (Nat.lt_of_not_le fun h' => hw ?_)
            unfold wordT Plain.isWord
            rw [ba_length]
            exact decide_eq_true ⟨by omega, h'⟩
        clear hw
        by_cases h0 : 0 < x.word.size
        · have d0 : decide ((0 : Int) < (x.word.size : Int)) = true := decide_eq_true (by omega)
          have d1 : decide ((x.word.size : Int) < 256) = false := decide_eq_false (by omega)
          clear hsz
          go_wp2_with fail
          exact ⟨⟨i + 1, k, by omega, by omega, by go_num, Lib.hid ⟨HT'.out, HI.out.2⟩⟩, by simp [intOf]; omega⟩
        · have d0 : decide ((0 : Int) < (x.word.size : Int)) = false := decide_eq_false (by omega)
          clear hsz
          go_wp2_with fail
          exact ⟨⟨i + 1, k, by omega, by omega, by go_num, Lib.hid ⟨HT'.out, HI.out.2⟩⟩, by simp [intOf]; omega⟩
    · obtain rfl : i = L.length := by omega
      obtain ⟨w2, h⟩ : ∃ w2, w2 = wr := ⟨_, rfl⟩
      subst h
      obtain ⟨t, ht⟩ : ∃ t, t = newT L := ⟨_, rfl⟩
      rw [List.take_length, ← ht] at HI
      have hfit : Fit t := by rw [ht]; exact newT_fit (by omega)
      have hgood : t.Good := by rw [ht]; exact newT_good _
      obtain ⟨A, hA⟩ : ∃ A, A = t.all [] := ⟨_, rfl⟩
      have hAl : A.length ≤ 45 := by rw [hA]; exact hfit.1
      have hAs : ∀ x ∈ A, x.word.size ≤ 255 := by rw [hA]; exact hfit.2
      have hAr : risingE A = true := by rw [hA]; exact Tr.all_rising t []
      have hAi : ∀ x ∈ A, wordT x.word = true ∧ bare x = x := by rw [hA, ht]; exact newT_inv L
      have HTT : Hid (∀ W, Below w2.heap.size w2 W → TrieAt W T (fun k => k ≠ T) t) := Lib.hid fun W h => by rw [ht]; exact (HT.out.below HI.out.2).below h
      have HWB : Hid (Below w.heap.size w w2) := Lib.hid (Below.next HB.out HI.out.2)
      have HMM := Lib.hid HI.out.1
      have HFit := Lib.hid hfit
      have HGood := Lib.hid hgood
      have HAr := Lib.hid hAr
      have HAi := Lib.hid hAi
      have HAs := Lib.hid hAs
      have HAt := Lib.hid hA
      have QA : Hid (∀ W, Below w2.heap.size w2 W → Calls Try.prog 18 #[.pointer (some ⟨T, 0, none⟩)] W fun e w' => ∃ ad c, e = .returned (.slice ad A.length c) ∧ Ents w' (.slice ad A.length c) A ∧ A.length ≤ c ∧ c ≤ 9223372036854775807 ∧ Below W.heap.size W w') := Lib.hid fun W h => by
        refine (all_at (HTT.out W h) hfit).mono ?_
        rintro e w' ⟨v, rfl, ho, hb⟩
        rw [← hA] at ho
        obtain ⟨ad, c, rfl, h3, h4, h5⟩ := rowE_owns ho
        exact ⟨ad, c, rfl, h5, h3, h4, hb⟩
      have QL : Hid (∀ W, Below w2.heap.size w2 W → Calls Try.prog 14 #[.pointer (some ⟨T, 0, none⟩)] W fun e w' => e = .returned (.int .i64 (A.length : Int)) ∧ W = w') := Lib.hid fun W h => by
        have := len_at (HTT.out W h)
        rw [← hA] at this
        exact this
      clear hfit hgood hAr hAi hAs hA ht HI HT START HF1 HF HB HV HLS
      go_wp2_with (first
        | (go_at_call 18; (with_reducible refine Calls.mono (QA.out _ (Below.refl _ _)) ?_); rintro e w3 ⟨ada, ca, rfl, hE3, hca1, hca2, hb3⟩; have H3 := Lib.hid hb3; have HE3 := Lib.hid hE3; have hlenm : ∀ ty, (Builtin.len_ #[44] ty #[.map (some m)]).run Try.prog w3 = .ok (.int .i64 (A.length : Int)) w3 := (fun ty => by have := (HMM.out.below hb3).len ty; rw [← HAt.out] at this; exact this); clear hb3 hE3)
        | (go_at_call 14; (with_reducible refine Calls.mono (QL.out _ H3.out) ?_); rintro e wl ⟨rfl, rfl⟩))
      have HEA : Hid (∀ W, Below w3.heap.size w3 W → ∀ i, i < A.length → ∃ b o, ada = some ⟨b, o, none⟩ ∧ b < w3.heap.size ∧ EntAt W b (o + i * 3) (ent A i)) := Lib.hid fun W h i hi => by
        obtain ⟨ad', c', hv', hx⟩ := HE3.out
        cases hv'
        obtain ⟨b, o, h1, h2⟩ := hx i hi
        exact ⟨b, o, h1, block_lt_of_cell h2.1, h2.below h⟩
      have HSZ : Hid (∀ i, sizeE (A.take i) ≤ 20000) := Lib.hid fun i => by
        have h1 := sizeE_le (A.take i) (fun x hx => HAs.out x (List.mem_of_mem_take hx))
        have h2 : (A.take i).length ≤ 45 := by rw [List.length_take]; omega
        omega
      clear hlenm QL
      go_loopw [10, 11] (fun s10 s11 wr => ∃ i : Nat, i ≤ A.length ∧ s11 = .int .i64 i ∧ s10 = .int .i64 (sizeE (A.take i) : Int) ∧ Hid (Below w3.heap.size w3 wr)) (fun _ s11 _ => A.length - (intOf s11).toNat)
      case atStart => exact ⟨0, Nat.zero_le _, rfl, rfl, Lib.hid (Below.refl _ _)⟩
      case round =>
        obtain ⟨i, hi, rfl, rfl, HI⟩ := hrel
        obtain ⟨wz, h⟩ : ∃ wz, wz = wr := ⟨_, rfl⟩
        subst h
        by_cases hlt : i < A.length
        · obtain ⟨b, o, rfl, hbl, hE⟩ := HEA.out _ HI.out i hlt
          obtain ⟨x, hx⟩ : ∃ x, x = ent A i := ⟨_, rfl⟩
          have hxm : x ∈ A := by rw [hx]; exact ent_mem hlt
          rw [← hx] at hE
          obtain ⟨h1, h2, h3⟩ := hE
          have hxs := HAs.out x hxm
          have hgx : t.get x.word.data.toList = some (x.weight, x.gone) := get_own (by rw [← HAt.out]; exact hxm)
          have hbz : b < wz.heap.size := block_lt_of_cell h1
          have hbn : b ≠ wz.heap.size := Nat.ne_of_lt hbz
          have h2z : Below w2.heap.size w2 wz := Below.next H3.out HI.out
          have hlk := (HMM.out.below h2z).look x.word (by omega) (x.weight, x.gone) hgx
          have hg0 := get_any t T _ x.word _ (HTT.out _ (Below.next h2z (below_alloc wz (.cells #[.string x.word, .int .u32 (x.weight : Int), .bool x.gone] 33)))) (by omega)
          rw [gotV_some hgx] at hg0
          have HG0 := Lib.hid hg0
          have hsz := HSZ.out i
          have HSN := Lib.hid (sizeE_next A i hlt)
          have HXX := Lib.hid hx
          clear hg0 hgx h2z hx hxm
          go_upto_region 23 with (go_at_call 19; (with_reducible refine Calls.mono HG0.out ?_); rintro e w5 ⟨rfl, hb5⟩; have H5 := Lib.hid hb5; clear hb5)
          have hz5 : wz.heap.size < w5.heap.size := by have := H5.out.size; simp at this; omega
          have H56 := below_alloc w5 (.cells #[.string x.word, .int .u32 (x.weight : Int), .bool x.gone] 33)
          obtain ⟨w6, hw6⟩ : ∃ w6, w6 = w5.alloc (.cells #[.string x.word, .int .u32 (x.weight : Int), .bool x.gone] 33) := ⟨_, rfl⟩
          rw [← hw6] at H56 ⊢
          obtain ⟨p0, p1, p2⟩ := box_kept (Below.next H5.out H56)
          have q012 := box_kept (w1 := w6) (by rw [hw6]; exact Below.refl _ (w5.alloc (.cells #[.string x.word, .int .u32 (x.weight : Int), .bool x.gone] 33)))
          obtain ⟨q0, q1, q2⟩ := q012
          have H36 : Hid (Below w3.heap.size w3 w6) := Lib.hid (Below.next HI.out (Below.next (Below.next (below_alloc _ _) H5.out) H56))
          have hE6 := HEA.out _ H36.out i hlt
          obtain ⟨b', o', he', hbl', hE6⟩ := hE6
          cases he'
          rw [← HXX.out] at hE6
          obtain ⟨r0, r1, r2⟩ := hE6
          obtain ⟨mi, hmi⟩ : ∃ mi, mi = i - 1 := ⟨_, rfl⟩
          obtain ⟨y, hy⟩ : ∃ y, y = ent A mi := ⟨_, rfl⟩
          have HY : Hid (0 < i → mi < A.length ∧ w6.cell? ⟨b, o + mi * 3, none⟩ = some (.string y.word) ∧ Op.bytesLess x.word.toList y.word.toList = false ∧ (x.word.toList == y.word.toList) = false) := Lib.hid fun h0 => by
            have hml : mi < A.length := by omega
            obtain ⟨b', o', he', hbl', hE7⟩ := HEA.out _ H36.out mi hml
            cases he'
            have hra := rising_at HAr.out mi i (by omega) hlt
            rw [← hy, ← HXX.out] at hra
            refine ⟨hml, by rw [hy]; exact hE7.1, ?_, ?_⟩
            · rw [ByteArray.toList_eq, ByteArray.toList_eq, bytesLess_less]
              exact less_asym' hra
            · rw [toList_beq]
              exact decide_eq_false fun e => by
                have h1 : ltE y x = true := hra
                have h2 : key y = key x := by unfold key; rw [e]
                exact ltE_key _ _ h1 h2
          have hneq : ∀ W, Sem.run Try.prog (binOp .neq 33 (.agg #[.string x.word, .int .u32 (x.weight : Int), .bool x.gone]) (.agg #[.string x.word, .int .u32 (x.weight : Int), .bool x.gone])) W = .ok (.bool false) W := fun W => by
            have := run_neE x x W
            rw [eqE_self] at this
            exact this
          clear hw6 hy h1 h2 h3 hlk hbn
          go_cut [138] from 102 to 137 (fun s138 wx => s138 = .bool false ∧ ∃ nn, wx = w6.drewN nn)
          case first =>
            by_cases hi0 : 0 < i
            · obtain ⟨hml, cy, hless, hless2⟩ := HY.out hi0
              have ei1 : (i : Int) - 1 = (mi : Int) := by omega
              have ei2 : IntKind.i64.wrap ((i : Int) - 1) = (mi : Int) := by rw [ei1]; exact IntWalk.i64_in _ (by omega)
              have d0 : decide ((0 : Int) < (i : Int)) = true := decide_eq_true (by omega)
              clear hmi
              go_quiet (fail)
              go_wp2_with fail
              go_meet
              exact ⟨rfl, _, rfl⟩
            · have d0 : decide ((0 : Int) < (i : Int)) = false := decide_eq_false (by omega)
              clear hmi
              go_quiet (fail)
              go_wp2_with fail
              go_meet
              exact ⟨rfl, _, rfl⟩
          case rest =>
          obtain ⟨rfl, nn, rfl⟩ := hcut
          have p0' : (w6.drewN nn).cell? ⟨wz.heap.size, 0, none⟩ = some (.string x.word) := p0
          clear p0 p1 p2 q0 q1 q2 r0 r1 r2 hneq
          go_wp2_with fail
          exact ⟨⟨i + 1, by omega, by go_num, by rw [HSN.out, HXX.out]; go_num, Lib.hid (below_drewN' H36.out)⟩, by simp [intOf]; omega⟩
        · obtain rfl : i = A.length := by omega
          rw [List.take_length]
          obtain ⟨w4, h⟩ : ∃ w4, w4 = wz := ⟨_, rfl⟩
          subst h
          have H24 : Hid (Below w2.heap.size w2 w4) := Lib.hid (Below.next H3.out HI.out)
          have QR := Lib.hid (root_at (HTT.out w4 H24.out))
          have QW : Hid (∀ (q : Nat) (W : World), NodeO (fun _ => True) W t.root (some q) → Calls Try.prog 25 #[.agg #[.pointer (some ⟨q, 0, none⟩)], .string ⟨#[]⟩] W fun e w' => ∃ ad c, e = .returned (.tuple #[.slice ad A.length c, .bool true]) ∧ Ents w' (.slice ad A.length c) A ∧ Below W.heap.size W w') := Lib.hid fun q W h => by
            have e0 : t.root.all [] = A := by rw [Tr.root_all, HAt.out]
            have hsl : Tr.Slim 256 t.root := by
              have := HFit.out.slim HGood.out []
              refine ⟨by have h1 := this.1; rw [show t.root.keys = t.keys from keys_root t]; exact h1, fun b => by rw [Tr.root_way]; exact this.2 b⟩
            have := walk_some 256 t.root q ⟨#[]⟩ W h hsl (fun b => by rw [Tr.root_way]; exact HGood.out.way b) (by decide) (by show (t.root.all []).length ≤ 1000; rw [e0]; omega)
            refine this.mono ?_
            rintro e w' ⟨v, rfl, h1, h2⟩
            have h1 : Ents w' v (t.root.all []) := h1
            rw [e0] at h1
            obtain ⟨ad, c, rfl, h3⟩ := h1
            exact ⟨ad, c, rfl, ⟨ad, c, rfl, h3⟩, h2⟩
          have SM : Hid (∀ (v1 v2 : Value) W, Ents W v1 A → Ents W v2 A → Calls Try.prog 17 #[v1, v2] W fun e w' => e = .returned (.bool true) ∧ Below W.heap.size W w') := Lib.hid fun v1 v2 W h1 h2 => same_true A v1 v2 W h1 h2 (by omega)
          have QZ : Hid (∀ W, Below w2.heap.size w2 W → Calls Try.prog 15 #[.pointer (some ⟨T, 0, none⟩)] W fun e w' => e = .returned (.int .i64 (sizeE A : Int)) ∧ Below W.heap.size W w') := Lib.hid fun W h => by
            have := size_at (HTT.out W h) HFit.out
            rw [← HAt.out] at this
            exact this
          have HA3 : Hid (∀ W, Below w4.heap.size w4 W → Ents W (.slice ada A.length ca) A) := Lib.hid fun W h => HE3.out.below (Below.next HI.out h)
          go_upto_if 167 with (first
            | (go_at_call 26; (with_reducible refine Calls.mono QR.out ?_); rintro e w5 ⟨q0, rfl, hN, hb⟩; have HN := Lib.hid hN.all; have H5 := Lib.hid hb; clear hN hb)
            | (go_at_call 25; (with_reducible refine Calls.mono (QW.out _ _ HN.out) ?_); rintro e w6 ⟨adw, cw, rfl, hE, hb⟩; have HE6 := Lib.hid hE; have H6 := Lib.hid (Below.next H5.out hb); clear hE hb)
            | (go_at_call 17; (with_reducible refine Calls.mono (SM.out _ _ _ HE6.out (HA3.out _ H6.out)) ?_); rintro e w7 ⟨rfl, hb⟩; have H7 := Lib.hid (Below.next H6.out hb); clear hb)
            | (go_at_call 15; (with_reducible refine Calls.mono (QZ.out _ (Below.next H24.out H7.out)) ?_); rintro e w8 ⟨rfl, hb⟩; have H8 := Lib.hid (Below.next H7.out hb); clear hb))
          obtain ⟨w9, h⟩ : ∃ w9, w9 = w8 := ⟨_, rfl⟩
          subst h
          have H49 := H8
          clear H8 H7 H6 H5 HE6 HN QR QW
          go_cut [18] from 168 to 172 (fun s18 wx => ∃ k0 : Nat, k0 ≤ A.length ∧ (k0 = A.length → A.length = 0) ∧ s18 = .int .i64 k0 ∧ wx = w9)
          case first =>
            by_cases h0 : 0 < A.length
            · have d0 : decide ((0 : Int) < (A.length : Int)) = true := decide_eq_true (by omega)
              obtain ⟨k0, hk0⟩ : ∃ k0, k0 = n % A.length := ⟨_, rfl⟩
              have hk1 : k0 < A.length := by rw [hk0]; exact Nat.mod_lt _ h0
              have hm1 : (n : Int).tmod (A.length : Int) = (k0 : Int) := by rw [Int.tmod_eq_emod_of_nonneg (by omega), hk0]; rfl
              have hm2 : (n : Int) % (A.length : Int) = (k0 : Int) := by rw [hk0]; rfl
              have hnz : ¬ (A.length : Int) = 0 := by omega
              clear hk0
              go_wp2_with fail
              go_meet
              exact ⟨k0, by omega, by omega, rfl, rfl⟩
            · have d0 : decide ((0 : Int) < (A.length : Int)) = false := decide_eq_false (by omega)
              go_wp2_with fail
              go_meet
              exact ⟨0, by omega, by omega, rfl, rfl⟩
          case rest =>
          obtain ⟨k0, hk0, hk1, rfl, hwx⟩ := hcut
          obtain ⟨w10, h⟩ : ∃ w10, w10 = wc := ⟨_, rfl⟩
          subst h
          rw [← hwx] at H49
          clear hwx
          have HK1 := Lib.hid hk1
          clear hk1
          have HT3 : Hid (∀ (v : Value) (W : World), Ents W v (A.drop k0 ++ A.take k0) → Calls Try.prog 11 #[v] W fun e w' => ∃ T3, e = .returned (.pointer (some ⟨T3, 0, none⟩)) ∧ TrieAt w' T3 (fun k => k ≠ T3) (newT (A.drop k0 ++ A.take k0)) ∧ Below W.heap.size W w') := Lib.hid fun v W h => new_ex _ v W h (by rw [List.length_append, List.length_drop, List.length_take]; omega) (fun x hx => Nat.le_trans (HAs.out x ((mem_turn A k0 x).1 hx)) (by decide))
          have HS2 : Hid (∀ W, Below w10.heap.size w10 W → Ents W (.slice ada k0 ca) (A.take k0)) := Lib.hid fun W h => (HA3.out W (Below.next H49.out h)).take hk0
          have HS1 : Hid (∀ W, Below w10.heap.size w10 W → Ents W (.slice (if ca = k0 then ada else Option.map (fun x => x.add (k0 * 3)) ada) (A.length - k0) (ca - k0)) (A.drop k0)) := Lib.hid fun W h => (HA3.out W (Below.next H49.out h)).drop hca1 hk0
          go_upto_region 32 with fail
          go_cut [19] from 173 to 182 (fun s19 wx => ∃ T3, s19 = .pointer (some ⟨T3, 0, none⟩) ∧ Hid (TrieAt wx T3 (fun k => k ≠ T3) (newT (A.drop k0 ++ A.take k0)) ∧ Below w10.heap.size w10 wx))
          case first =>
            by_cases hck : ca = k0
            · have e1 : k0 = A.length := by omega
              have e2 : ca = A.length := by omega
              subst e1
              subst e2
              have HS1' : Hid (∀ W, Below w10.heap.size w10 W → Ents W (.slice ada 0 0) (A.drop A.length)) := Lib.hid fun W h => ⟨ada, 0, by simp, fun i hi => by simp at hi⟩
              have hn0 : w10.heap.size ≤ w10.heap.size := Nat.le_refl _
              have hO0 : ∀ W : World, w10.heap.size ≤ W.heap.size → (W.alloc (.cells #[] 33)).ownsRow w10.heap.size 33 3 (.slice (some ⟨W.heap.size, 0, none⟩) 0 0) ([] : List Ent).length (ents []) := fun W hW => ⟨rfl, .inr ⟨W.heap.size, 0, _, rfl, hW, heap_alloc_new W _, Nat.le_refl _, by unfold maxLen; omega, rfl, rfl⟩⟩
              go_region_held_law (fun W => Below w10.heap.size w10 W) ((repeat (first | with_reducible assumption | with_reducible exact Below.refl _ _ | (with_reducible refine Below.drew ?_) | (with_reducible apply below_alloc') | with_reducible exact N3)))
                (first
                  | (refine step_append_ents (w0 := w10) rfl (.tmp 173) (.tmp 176) rfl rfl (.slice (some ⟨w10.heap.size, 0, none⟩) 0 0) _ [] (A.drop A.length) rfl rfl (by repeat (first | with_reducible assumption | with_reducible exact Below.refl _ _ | (with_reducible refine Below.drew ?_) | (with_reducible apply below_alloc'))) (by repeat (first | exact hO0 w10 hn0 | (with_reducible apply ownsE_drew'))) (HS1'.out _ (by repeat (first | with_reducible assumption | with_reducible exact Below.refl _ _ | (with_reducible refine Below.drew ?_) | (with_reducible apply below_alloc')))) (by simp <;> omega) ?_; intro v1 wA o1 g1 b1)
                  | (refine step_append_ents (w0 := w10) rfl (.tmp 177) (.tmp 180) rfl rfl v1 (.slice ada A.length A.length) ([] ++ A.drop A.length) (A.take A.length) rfl rfl (by repeat (first | with_reducible assumption | with_reducible exact Below.refl _ _ | (with_reducible refine Below.drew ?_) | (with_reducible apply below_alloc'))) (by repeat (first | exact o1 | (with_reducible apply ownsE_drew'))) (HS2.out _ (by repeat (first | with_reducible assumption | with_reducible exact Below.refl _ _ | (with_reducible refine Below.drew ?_) | (with_reducible apply below_alloc')))) (by simp <;> omega) ?_; intro v2 wB o2 g2 b2)
                  | (go_at_call 11; (refine Calls.mono (HT3.out v2 _ (by repeat (first | exact ents_of_owns o2 | (with_reducible apply ents_drew')))) ?_); rintro e wN ⟨T3, rfl, hT3, hb3⟩; have N3 : Below w10.heap.size w10 wN := Below.next (by repeat (first | with_reducible assumption | with_reducible exact Below.refl _ _ | (with_reducible refine Below.drew ?_) | (with_reducible apply below_alloc'))) hb3; have HT3' := Lib.hid (And.intro hT3 N3); clear hT3))
              all_goals (try simp only [Act.put, List.getElem_toArray, List.getElem_cons_succ, List.getElem_cons_zero, List.setIfInBounds_toArray, List.set_cons_zero, List.set_cons_succ])
              all_goals go_wp2_with fail
              all_goals go_meet
              all_goals exact ⟨T3, rfl, HT3'⟩
            · have HS1' := HS1
              rw [if_neg hck] at HS1'
              have hn0 : w10.heap.size ≤ w10.heap.size := Nat.le_refl _
              have hO0 : ∀ W : World, w10.heap.size ≤ W.heap.size → (W.alloc (.cells #[] 33)).ownsRow w10.heap.size 33 3 (.slice (some ⟨W.heap.size, 0, none⟩) 0 0) ([] : List Ent).length (ents []) := fun W hW => ⟨rfl, .inr ⟨W.heap.size, 0, _, rfl, hW, heap_alloc_new W _, Nat.le_refl _, by unfold maxLen; omega, rfl, rfl⟩⟩
              go_region_held_law (fun W => Below w10.heap.size w10 W) ((repeat (first | with_reducible assumption | with_reducible exact Below.refl _ _ | (with_reducible refine Below.drew ?_) | (with_reducible apply below_alloc') | with_reducible exact N3)))
                (first
                  | (refine step_append_ents (w0 := w10) rfl (.tmp 173) (.tmp 176) rfl rfl (.slice (some ⟨w10.heap.size, 0, none⟩) 0 0) _ [] (A.drop k0) rfl rfl (by repeat (first | with_reducible assumption | with_reducible exact Below.refl _ _ | (with_reducible refine Below.drew ?_) | (with_reducible apply below_alloc'))) (by repeat (first | exact hO0 w10 hn0 | (with_reducible apply ownsE_drew'))) (HS1'.out _ (by repeat (first | with_reducible assumption | with_reducible exact Below.refl _ _ | (with_reducible refine Below.drew ?_) | (with_reducible apply below_alloc')))) (by simp <;> omega) ?_; intro v1 wA o1 g1 b1)
                  | (refine step_append_ents (w0 := w10) rfl (.tmp 177) (.tmp 180) rfl rfl v1 (.slice ada k0 ca) ([] ++ A.drop k0) (A.take k0) rfl rfl (by repeat (first | with_reducible assumption | with_reducible exact Below.refl _ _ | (with_reducible refine Below.drew ?_) | (with_reducible apply below_alloc'))) (by repeat (first | exact o1 | (with_reducible apply ownsE_drew'))) (HS2.out _ (by repeat (first | with_reducible assumption | with_reducible exact Below.refl _ _ | (with_reducible refine Below.drew ?_) | (with_reducible apply below_alloc')))) (by simp <;> omega) ?_; intro v2 wB o2 g2 b2)
                  | (go_at_call 11; (refine Calls.mono (HT3.out v2 _ (by repeat (first | exact ents_of_owns o2 | (with_reducible apply ents_drew')))) ?_); rintro e wN ⟨T3, rfl, hT3, hb3⟩; have N3 : Below w10.heap.size w10 wN := Below.next (by repeat (first | with_reducible assumption | with_reducible exact Below.refl _ _ | (with_reducible refine Below.drew ?_) | (with_reducible apply below_alloc'))) hb3; have HT3' := Lib.hid (And.intro hT3 N3); clear hT3))
              all_goals (try simp only [Act.put, List.getElem_toArray, List.getElem_cons_succ, List.getElem_cons_zero, List.setIfInBounds_toArray, List.set_cons_zero, List.set_cons_succ])
              all_goals go_wp2_with fail
              all_goals go_meet
              all_goals exact ⟨T3, rfl, HT3'⟩
          case rest =>
          obtain ⟨T3, rfl, H33⟩ := hcut
          obtain ⟨w11, h⟩ : ∃ w11, w11 = wc := ⟨_, rfl⟩
          subst h
          have H4b : Hid (Below w4.heap.size w4 w11) := Lib.hid (Below.next H49.out H33.out.2)
          have hT3 : (newT (A.drop k0 ++ A.take k0)).all [] = A := newT_turn HAr.out HAi.out (mem_turn A k0)
          obtain ⟨t3, ht3⟩ : ∃ t3, t3 = newT (A.drop k0 ++ A.take k0) := ⟨_, rfl⟩
          rw [← ht3] at hT3 H33
          have hfit3 : Fit t3 := by rw [ht3]; exact newT_fit (by rw [List.length_append, List.length_drop, List.length_take]; omega)
          have QC := Lib.hid (copy_at (HTT.out w11 (Below.next H24.out H4b.out)))
          have T3T : Hid (∀ W, Below w11.heap.size w11 W → TrieAt W T3 (fun k => k ≠ T3) t3) := Lib.hid fun W h => H33.out.1.below h
          have HT3A := Lib.hid hT3
          have HFit3 := Lib.hid hfit3
          have o1 := fun (W : World) => of_any ⟨#[122, 32, 110, 101, 119, 32, 111, 110, 101]⟩ 1 W
          have HP1 : Hid (∀ (T2 : Nat) (W : World), TrieAt W T2 (fun k => k ≠ T2) t → Calls Try.prog 12 #[.pointer (some ⟨T2, 0, none⟩), .agg #[.string ⟨#[122, 32, 110, 101, 119, 32, 111, 110, 101]⟩, .int .u32 ((1 : Nat) : Int), .bool false]] W fun e w' => e = .returned (.int .i64 (if wordT (⟨#[122, 32, 110, 101, 119, 32, 111, 110, 101]⟩ : ByteArray) = true then 0 else 7)) ∧ TrieAt w' T2 (fun k => k ≠ T2) (putT t ⟨⟨#[122, 32, 110, 101, 119, 32, 111, 110, 101]⟩, 1, false⟩) ∧ W.grownBy w' (some T2)) := Lib.hid fun T2 W h => put_wide (x := ⟨⟨#[122, 32, 110, 101, 119, 32, 111, 110, 101]⟩, 1, false⟩) h ⟨by have := HFit.out.1; omega, HFit.out.2⟩ (by decide)
          clear hT3 ht3 hfit3 H33 HS1 HS2 HT3
          go_upto_block 4 with (first
            | (go_at_call 27; (with_reducible refine Calls.mono QC.out ?_); rintro e w12 ⟨rfl, hC, hb⟩; have HC := Lib.hid hC; have H12 := Lib.hid hb; clear hC hb)
            | (go_at_call 28; (with_reducible refine Calls.mono (o1 _) ?_); rintro e w13 ⟨rfl, hb⟩; have H13 := Lib.hid hb; clear hb)
            | (go_at_call 12; (with_reducible refine Calls.mono (HP1.out _ _ (HC.out.below H13.out)) ?_); rintro e w14 ⟨rfl, hC, hg⟩; have H14 := Lib.hid (And.intro hC hg); clear hC hg))
          obtain ⟨T2, hT2⟩ : ∃ T2, T2 = w11.heap.size := ⟨_, rfl⟩
          have hT2l : w11.heap.size ≤ T2 := by omega
          rw [← hT2] at HC H14 ⊢
          have hz13 : w11.heap.size ≤ w13.heap.size := Nat.le_trans H12.out.size H13.out.size
          have H0c : Hid (∃ c : Tr, A.length ≤ (c.all []).length ∧ (c.all []).length ≤ A.length + 1 + 0 ∧ (∀ x ∈ c.all [], x.word.size ≤ 255) ∧ TrieAt w14 T2 (fun k => k ≠ T2) c ∧ Below w11.heap.size w11 w14) := Lib.hid (by
            have h1 := putT_length t ⟨⟨#[122, 32, 110, 101, 119, 32, 111, 110, 101]⟩, 1, false⟩
            have h2 := putT_wide (n := A.length) (t := t) ⟨by rw [← HAt.out]; exact Nat.le_refl _, HFit.out.2⟩ ⟨⟨#[122, 32, 110, 101, 119, 32, 111, 110, 101]⟩, 1, false⟩
            rw [← HAt.out] at h1
            exact ⟨_, h1, h2.1, h2.2, H14.out.1, (Below.next H12.out H13.out).grown H14.out.2 hz13 (fun j hj => by cases hj; exact hT2l)⟩)
          clear hT2 QC HP1 HC H12 H13 H14 o1
          go_wp2_with fail
          go_loopw [21] (fun s21 wr => ∃ i : Nat, i ≤ A.length ∧ s21 = .int .i64 i ∧ Hid (∃ c : Tr, A.length ≤ (c.all []).length ∧ (c.all []).length ≤ A.length + 1 + i ∧ (∀ x ∈ c.all [], x.word.size ≤ 255) ∧ TrieAt wr T2 (fun k => k ≠ T2) c ∧ Below w11.heap.size w11 wr)) (fun s21 _ => A.length - (intOf s21).toNat)
          case atStart => exact ⟨0, Nat.zero_le _, rfl, H0c⟩
          case round =>
            obtain ⟨i, hi, rfl, HI⟩ := hrel
            obtain ⟨c, hc1, hc2, hc3, hc4, hc5⟩ := HI.out
            have HC5 := Lib.hid hc5
            have HC4 := Lib.hid hc4
            have HC3 := Lib.hid hc3
            have HC1 := Lib.hid hc1
            clear hc5 hc4 hc3 hc1 HI
            by_cases hlt : i < A.length
            · obtain ⟨ad', c', hv', hx⟩ := (HA3.out _ (Below.next H4b.out HC5.out))
              cases hv'
              obtain ⟨b, o, rfl, hE⟩ := hx i hlt
              obtain ⟨h1, h2, h3⟩ := hE
              obtain ⟨x, hx'⟩ : ∃ x, x = ent A i := ⟨_, rfl⟩
              have hxs : x.word.size ≤ 255 := by rw [hx']; exact HAs.out _ (ent_mem hlt)
              rw [← hx'] at h1 h2 h3
              have g1 := fun (W : World) => gone_any x.word W
              have HP : Hid (∀ W, Below wr.heap.size wr W → Calls Try.prog 12 #[.pointer (some ⟨T2, 0, none⟩), .agg #[.string x.word, .int .u32 0, .bool true]] W fun e w' => e = .returned (.int .i64 (if wordT x.word = true then 0 else 7)) ∧ TrieAt w' T2 (fun k => k ≠ T2) (putT c ⟨x.word, 0, true⟩) ∧ W.grownBy w' (some T2)) := Lib.hid fun W h => put_wide (x := ⟨x.word, 0, true⟩) (HC4.out.below h) ⟨by omega, HC3.out⟩ (by show x.word.size ≤ 1000; omega)
              have hwl : w11.heap.size ≤ wr.heap.size := HC5.out.size
              clear hx' hx
              go_wp2_with (first
                | (go_at_call 29; (with_reducible refine Calls.mono (g1 _) ?_); rintro e w12 ⟨rfl, hb⟩; have H12 := Lib.hid hb; have hz12 : w11.heap.size ≤ w12.heap.size := Nat.le_trans hwl hb.size; clear hb)
                | (go_at_call 12; (with_reducible refine Calls.mono (HP.out _ H12.out) ?_); rintro e w14 ⟨rfl, hC, hg⟩; have H14 := Lib.hid (And.intro hC hg); clear hC hg))
              have h5 := putT_length c ⟨x.word, 0, true⟩
              have h6 := putT_wide (n := A.length + 1 + i) ⟨hc2, HC3.out⟩ ⟨x.word, 0, true⟩
              exact ⟨⟨i + 1, by omega, by go_num, Lib.hid ⟨_, Nat.le_trans HC1.out h5, h6.1, h6.2, H14.out.1, (Below.next HC5.out H12.out).grown H14.out.2 hz12 (fun j hj => by cases hj; exact hT2l)⟩⟩, by simp [intOf]; omega⟩
            · obtain ⟨w15, h⟩ : ∃ w15, w15 = wr := ⟨_, rfl⟩
              subst h
              obtain ⟨cl, hcl⟩ : ∃ cl, cl = (c.all []).length := ⟨_, rfl⟩
              have hge : A.length ≤ cl := by rw [hcl]; exact HC1.out
              have QA3 : Hid (∀ W, Below w15.heap.size w15 W → Calls Try.prog 18 #[.pointer (some ⟨T3, 0, none⟩)] W fun e w' => ∃ ad c, e = .returned (.slice ad A.length c) ∧ Ents w' (.slice ad A.length c) A ∧ Below W.heap.size W w') := Lib.hid fun W h => by
                refine (all_at (T3T.out W (Below.next HC5.out h)) HFit3.out).mono ?_
                rintro e w' ⟨v, rfl, ho, hb⟩
                rw [HT3A.out] at ho
                obtain ⟨ad, c, rfl, h3⟩ := ents_of_owns ho
                exact ⟨ad, c, rfl, ⟨ad, c, rfl, h3⟩, hb⟩
              have QZ3 : Hid (∀ W, Below w15.heap.size w15 W → Calls Try.prog 15 #[.pointer (some ⟨T3, 0, none⟩)] W fun e w' => e = .returned (.int .i64 (sizeE A : Int)) ∧ Below W.heap.size W w') := Lib.hid fun W h => by
                have := size_at (T3T.out W (Below.next HC5.out h)) HFit3.out
                rw [HT3A.out] at this
                exact this
              have H2f : Hid (Below w2.heap.size w2 w15) := Lib.hid (Below.next H24.out (Below.next H4b.out HC5.out))
              have QL1 : Hid (∀ W, Below w15.heap.size w15 W → Calls Try.prog 14 #[.pointer (some ⟨T, 0, none⟩)] W fun e w' => e = .returned (.int .i64 (A.length : Int)) ∧ W = w') := Lib.hid fun W h => by
                have := len_at (HTT.out W (Below.next H2f.out h))
                rw [← HAt.out] at this
                exact this
              have QL2 : Hid (∀ W, Below w15.heap.size w15 W → Calls Try.prog 14 #[.pointer (some ⟨T2, 0, none⟩)] W fun e w' => e = .returned (.int .i64 (cl : Int)) ∧ W = w') := Lib.hid fun W h => by
                have := len_at (HC4.out.below h)
                rw [← hcl] at this
                exact this
              have HA5 := Lib.hid (fun W (h : Below w15.heap.size w15 W) => HA3.out W (Below.next H4b.out (Below.next HC5.out h)))
              have e1 : decide ((A.length : Int) ≤ (cl : Int)) = true := decide_eq_true (by omega)
              have e2 : decide (A.length ≤ cl) = true := decide_eq_true hge
              clear hcl
              go_wp2_with (first
                | (go_at_call 18; (first
                    | ((with_reducible refine Calls.mono (QA3.out _ (Below.refl _ _)) ?_); rintro e wa ⟨adx, cx, rfl, hE, hb⟩; have HX1 := Lib.hid hE; have HY1 := Lib.hid hb; clear hE hb)
                    | ((with_reducible refine Calls.mono (QA.out _ (Below.next H2f.out HY3.out)) ?_); rintro e wd ⟨ady, cy, rfl, hE, -, -, hb⟩; have HX4 := Lib.hid hE; have HY4 := Lib.hid (Below.next HY3.out hb); clear hE hb)))
                | (go_at_call 17; (first
                    | ((with_reducible refine Calls.mono (SM.out _ _ _ HX1.out (HA5.out _ HY1.out)) ?_); rintro e wb ⟨rfl, hb⟩; have HY2 := Lib.hid (Below.next HY1.out hb); clear hb)
                    | ((with_reducible refine Calls.mono (SM.out _ _ _ HX4.out (HA5.out _ HY4.out)) ?_); rintro e we ⟨rfl, hb⟩; have HY5 := Lib.hid (Below.next HY4.out hb); clear hb)))
                | (go_at_call 15; (with_reducible refine Calls.mono (QZ3.out _ HY2.out) ?_); rintro e wg ⟨rfl, hb⟩; have HY3 := Lib.hid (Below.next HY2.out hb); clear hb)
                | (go_at_call 14; (first
                    | ((with_reducible refine Calls.mono (QL2.out _ HY5.out) ?_); rintro e wl ⟨rfl, rfl⟩)
                    | ((with_reducible refine Calls.mono (QL1.out _ HY5.out) ?_); rintro e wl ⟨rfl, rfl⟩))))
              go_ret
              exact ⟨rfl, Below.next HWB.out (Below.next H2f.out HY5.out)⟩
end Go.Proofs.Ytomkhhglemelcaa

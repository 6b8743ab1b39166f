/-
  PackReads: one text, read by both. PackLays: the walk, but for the transducer of a list (any that is read will do).
-/
import Derived.Test.YtjiilmiikejnhaaDoorP32
import Derived.Test.YtjiilmiikejnhaaDoorP34
import Derived.Test.YtjiilmiikejnhaaDoorP29
import Derived.Test.YtjiilmiikejnhaaDoorP26
set_option linter.unusedVariables false
set_option linter.unusedSimpArgs false
namespace Go.Proofs.YtjiilmiikejnhaaDoor
open Go.RowKit Go.Shelf Said

theorem packRef_any {w : World} {s : ByteArray} (hs : s.size ≤ 90000) : Calls Tryd.prog 37 #[.string s] w (RefGot w (readR s)) := by
  cases hS : isSeal s with
  | false => exact refGet_not (by omega) hS
  | true => exact refGet_is (by omega) hS rfl (Nat.le_trans (opened_size s) hs) (by unfold readR; rw [hS]; rfl)
theorem readR_few {s : ByteArray} (hs : s.size ≤ 90000) {n i : Nat} {l : List DSt} (h : readR s = .ok (n, l, i)) : l.length ≤ 100000 ∧ ∀ x ∈ l, x.arcs.length ≤ 100000 := by
  unfold readR at h
  split at h
  · have e : (opened s).data.toList.length = (opened s).size := rfl
    have := opened_size s
    obtain ⟨-, -, -, -, -, h6, h7⟩ := bodyR_ok (by omega) h
    exact ⟨by omega, fun x hx => Nat.le_trans (maySs_arcs h6 x hx) (by omega)⟩
  · cases h
theorem readR_c {s : ByteArray} (hs : s.size ≤ 90000) {c p : Nat} (h : readR s = .error (c, p)) : c ≠ 0 := by
  unfold readR at h
  split at h
  · have e : (opened s).data.toList.length = (opened s).size := rfl
    have := opened_size s
    have ha := body_agr (opened s).data.toList (by omega)
    rw [h] at ha
    exact ha.2.2
  · cases h
    decide

set_option maxHeartbeats 2000000 in
set_option maxRecDepth 100000 in
theorem reads_core {w : World} {s : ByteArray} {n i : Nat} {c p : Int} {l : List DSt} (hl : l.length ≤ 100000) (ha : ∀ x ∈ l, x.arcs.length ≤ 100000)
    (Q : Calls Tryd.prog 18 #[.string s] w fun e w' => ∃ ad c1 ev, e = .returned (.tuple #[.int .i64 (n : Int), .agg #[.slice ad l.length c1, .int .u64 (i : Int)], ev]) ∧ Sts w' (.slice ad l.length c1) l ∧ (∀ W, Below w'.heap.size w' W → Calls Tryd.prog 21 #[ev, .agg #[.int .i64 c, .int .i64 p]] W fun e w' => e = .returned (.bool true) ∧ Below W.heap.size W w') ∧ Below w.heap.size w w')
    (QR : ∀ W, Calls Tryd.prog 37 #[.string s] W fun e w' => ∃ ad c1, e = .returned (.tuple #[.int .i64 (n : Int), .agg #[.slice ad l.length c1, .int .u64 (i : Int)], .agg #[.int .i64 c, .int .i64 p]]) ∧ Sts w' (.slice ad l.length c1) l ∧ Below W.heap.size W w') :
    Calls Tryd.prog 16 #[.string s] w fun e w' => e = .returned (.bool true) ∧ Below w.heap.size w w' := by
  have HQ := Lib.hid Q
  have HQR := Lib.hid QR
  obtain ⟨k, hk⟩ : ∃ k, l.length = k := ⟨_, rfl⟩
  rw [hk] at HQ HQR
  have HL := Lib.hid (And.intro hl (And.intro ha hk))
  clear Q QR hl ha hk
  go_enter Tryd.func16, Tryd.ntmps16
  go_upto_region 3 with (first
    | (go_at_call 18
       (with_reducible refine HQ.out.mono ?_)
       go_loud (
       rintro e' w1 ⟨ad, c1, ev, rfl, hs1, ht1, hb1⟩
       have H1 := Lib.hid (And.intro hs1 (And.intro ht1 hb1))
       clear hs1 ht1 hb1))
    | (go_at_call 37
       (with_reducible refine (HQR.out _).mono ?_)
       go_loud (
       rintro e' w2 ⟨ad2, c2, rfl, hs2, hb2⟩
       have H2 := Lib.hid (And.intro hs2 hb2)
       clear hs2 hb2)))
  obtain ⟨W1, hW1⟩ : ∃ W1, W1 = w1.alloc (.cells #[.slice ad k c1, .int .u64 (i : Int)] 25) := ⟨_, rfl⟩
  obtain ⟨W3, hW3⟩ : ∃ W3, W3 = (w2.alloc (.cells #[.slice ad2 k c2, .int .u64 (i : Int)] 25)).alloc (.cells #[.int .i64 c, .int .i64 p] 60) := ⟨_, rfl⟩
  have hb1 : Below w1.heap.size w1 W1 := by rw [hW1]; exact below_alloc _ _
  have hb2 : Below W1.heap.size W1 w2 := by rw [hW1]; exact H2.out.2
  have hb3 : Below w2.heap.size w2 W3 := by rw [hW3]; exact (below_alloc w2 _).alloc (by simp) _
  have f1 : FstB W1 w1.heap.size (.slice ad k c1) i := by rw [hW1]; exact heap_alloc_new w1 _
  have f2 : FstB W3 w2.heap.size (.slice ad2 k c2) i := by rw [hW3]; exact (alloc_old _ _ (by simp)).trans (heap_alloc_new w2 _)
  have g3 : FltB W3 (w2.heap.size + 1) c p := by rw [hW3]; exact alloc_at _ _ (by simp)
  have hb13 : Below w1.heap.size w1 W3 := (hb1.trans (hb2.mono hb1.size)).trans (hb3.mono (Nat.le_trans hb1.size hb2.size))
  have f3 : FstB W3 w1.heap.size (.slice ad k c1) i := f1.kp (Kp.below (M := fun _ => False) (hb2.trans (hb3.mono hb2.size))) (fun h => h)
  have s1 : Sts W3 (.slice ad k c1) l := H1.out.1.below hb13
  have s2 : Sts W3 (.slice ad2 k c2) l := H2.out.1.below hb3
  have hS := sameF_any (n1 := i) (n2 := i) s1 s2 HL.out.1 HL.out.1 HL.out.2.1 HL.out.2.1
  rw [decide_eq_true (⟨rfl, rfl⟩ : i = i ∧ l = l)] at hS
  have HS := Lib.hid hS
  have HB := Lib.hid (And.intro hb13 (And.intro g3 (H1.out.2.2.trans (hb13.mono H1.out.2.2.size))))
  have z0 := f3.at0
  have z1 := f3.at1
  have z2 := f2.at0
  have z3 := f2.at1
  rw [← hW3]
  clear hW1 hW3 hb1 hb2 hb3 f1 f2 f3 g3 hb13 s1 s2 hS
  go_wp2_with (first
    | (go_at_call 19
       (with_reducible refine HS.out.mono ?_)
       go_loud (
       rintro e' w4 ⟨rfl, hb4⟩
       have g4 := HB.out.2.1.below hb4
       have y0 := g4.at0
       have y1 := g4.at1
       have H4 := Lib.hid (And.intro (HB.out.1.trans (hb4.mono HB.out.1.size)) (HB.out.2.2.trans (hb4.mono HB.out.2.2.size)))
       have QT := Lib.hid (H1.out.2.1 w4 H4.out.1)
       clear hb4 g4))
    | (go_at_call 21
       (with_reducible refine QT.out.mono ?_)
       go_loud (
       rintro e' w5 ⟨rfl, hb5⟩
       have H5 := Lib.hid (H4.out.2.trans (hb5.mono H4.out.2.size))
       clear hb5)))
  go_ret
  exact ⟨rfl, H5.out⟩

theorem reads_any {w : World} (hF : Fours w) (hE : ErrT w) {s : ByteArray} (hs : s.size ≤ 90000) :
    Calls Tryd.prog 16 #[.string s] w fun e w' => e = .returned (.bool true) ∧ Below w.heap.size w w' := by
  have Q := packGet_any hF (s := s) (by omega)
  have QR : ∀ W, Calls Tryd.prog 37 #[.string s] W (RefGot W (readR s)) := fun W => packRef_any hs
  cases hr : readR s with
  | error e =>
    obtain ⟨c, p⟩ := e
    have hc := readR_c hs hr
    rw [hr] at Q QR
    refine reads_core (n := 0) (i := 0) (l := []) (c := (c : Int)) (p := (p : Int)) (by simp) (by simp) (Q.mono ?_) (fun W => (QR W).mono ?_)
    · rintro e w' ⟨⟨bf, rfl, h1, h2⟩, h3⟩
      exact ⟨none, 0, _, rfl, sts_none w', fun W hb => told_yes ((hE.below h3).below hb) ((show FltB w' bf c p from h2).below hb) (by rw [beq_eq_false_iff_ne]; omega), h3⟩
    · rintro e w' ⟨rfl, h3⟩
      exact ⟨none, 0, rfl, sts_none w', h3⟩
  | ok r =>
    obtain ⟨n, l, i⟩ := r
    obtain ⟨hl, ha⟩ := readR_few hs hr
    rw [hr] at Q QR
    refine reads_core (n := n) (i := i) (l := l) (c := 0) (p := 0) hl ha (Q.mono ?_) (fun W => (QR W).mono ?_)
    · rintro e w' ⟨⟨v, xs, rfl, h1, h2⟩, h3⟩
      have hst := h1.sts
      rw [h2] at hst
      obtain ⟨ad, c, rfl, hc⟩ := hst
      exact ⟨ad, c, _, rfl, ⟨ad, c, rfl, hc⟩, fun W hb => told_none, h3⟩
    · rintro e w' ⟨⟨ad, c, rfl, h1⟩, h3⟩
      exact ⟨ad, c, rfl, h1, h3⟩
end Go.Proofs.YtjiilmiikejnhaaDoor
namespace Go.Proofs.YtjiilmiikejnhaaDoor
open Go.RowKit Go.Shelf Said

structure Mid (l : List DSt) : Prop where
  len : l.length ≤ 10000
  arcs : ∀ s ∈ l, s.arcs.length ≤ 100000
  ok : ∀ s ∈ l, s.ok
theorem puts_any {l : List DSt} {init : Nat} (h : Mid l) (hi : init < 18446744073709551616) (x : Int) : ∃ (S : ByteArray) (c : Int), ∀ W, Fours W → ∀ v, Sts W v l →
    Calls Tryd.prog 11 #[.int .i64 x, .agg #[v, .int .u64 (init : Int)]] W (fun e w' => e = .returned (.tuple #[.string S, .int .i64 c]) ∧ Below W.heap.size W w') ∧
    Calls Tryd.prog 12 #[.int .i64 x, .agg #[v, .int .u64 (init : Int)]] W (fun e w' => e = .returned (.tuple #[.string S, .int .i64 c]) ∧ Below W.heap.size W w') ∧
    Calls Tryd.prog 13 #[.int .i64 x, .agg #[v, .int .u64 (init : Int)]] W (fun e w' => e = .returned (.int .i64 (S.size : Int)) ∧ Below W.heap.size W w') := by
  have hl := h.len
  cases hm : mayT x l with
  | false => exact ⟨⟨#[]⟩, 2, fun W _ v hv => ⟨packPut_no hv (by omega) h.arcs hm, refPut_not hv (by omega) h.arcs hm, packSize_no hv (by omega) h.arcs hm⟩⟩
  | true =>
    have hm' := hm
    simp only [mayT, Bool.and_eq_true, decide_eq_true_eq] at hm'
    obtain ⟨h0, h1, h2, h3⟩ := hm'
    obtain ⟨n, rfl⟩ : ∃ n : Nat, x = (n : Int) := ⟨x.toNat, by omega⟩
    have ha := maySs_arcs h3
    have hL := laySs_le6 l 0 (by omega) ha h.ok h3 256 ha
    have hB : (layT n l init).length ≤ 1000000000 := by
      have e1 := (Plain.size_bounds (n := n) (by omega)).2
      have e2 := (Plain.size_bounds (n := l.length) (by omega)).2
      have e3 := (Plain.size_bounds hi).2
      have hq : (18 + 19 * 256) * l.length ≤ (18 + 19 * 256) * 10000 := Nat.mul_le_mul_left _ hl
      unfold layT magicL
      simp only [List.length_append, List.length_cons, List.length_nil, Plain.enc_length]
      omega
    refine ⟨sealed ⟨(layT n l init).toArray⟩, 0, fun W hF v hv => ⟨packPut_yes hF hv (by omega) h.arcs hm (by omega) hi h3 h.ok hB, refPut_yes hv (by omega) hm h3 h.ok (by omega) hi, ?_⟩⟩
    have := packSize_yes hv (by omega) h.arcs hm (by omega) hi h3 h.ok hB
    rwa [show 4 + (layT n l init).length = (sealed ⟨(layT n l init).toArray⟩).size by rw [sealed_size]; show _ = (layT n l init).toArray.size + 4; rw [List.size_toArray]; omega] at this
theorem tri_0 (a0 a1 a2 : Option Addr) (k0 k1 k2 c0 c1 c2 : Nat) (i0 i1 i2 : Int) (w : World) : (Instr.index 30 (.agg #[.slice a0 k0 c0, .int .u64 i0, .slice a1 k1 c1, .int .u64 i1, .slice a2 k2 c2, .int .u64 i2]) (.int .i64 0)).run Tryd.prog w = .ok (.agg #[.slice a0 k0 c0, .int .u64 i0]) w := by kernel_rfl
theorem tri_1 (a0 a1 a2 : Option Addr) (k0 k1 k2 c0 c1 c2 : Nat) (i0 i1 i2 : Int) (w : World) : (Instr.index 30 (.agg #[.slice a0 k0 c0, .int .u64 i0, .slice a1 k1 c1, .int .u64 i1, .slice a2 k2 c2, .int .u64 i2]) (.int .i64 1)).run Tryd.prog w = .ok (.agg #[.slice a1 k1 c1, .int .u64 i1]) w := by kernel_rfl
theorem tri_2 (a0 a1 a2 : Option Addr) (k0 k1 k2 c0 c1 c2 : Nat) (i0 i1 i2 : Int) (w : World) : (Instr.index 30 (.agg #[.slice a0 k0 c0, .int .u64 i0, .slice a1 k1 c1, .int .u64 i1, .slice a2 k2 c2, .int .u64 i2]) (.int .i64 2)).run Tryd.prog w = .ok (.agg #[.slice a2 k2 c2, .int .u64 i2]) w := by kernel_rfl
theorem qua_0 (a b c d : Value) (w : World) : (Instr.index 31 (.agg #[a, b, c, d]) (.int .i64 0)).run Tryd.prog w = .ok a w := by kernel_rfl
theorem qua_1 (a b c d : Value) (w : World) : (Instr.index 31 (.agg #[a, b, c, d]) (.int .i64 1)).run Tryd.prog w = .ok b w := by kernel_rfl
theorem qua_2 (a b c d : Value) (w : World) : (Instr.index 31 (.agg #[a, b, c, d]) (.int .i64 2)).run Tryd.prog w = .ok c w := by kernel_rfl
theorem qua_3 (a b c d : Value) (w : World) : (Instr.index 31 (.agg #[a, b, c, d]) (.int .i64 3)).run Tryd.prog w = .ok d w := by kernel_rfl

set_option maxHeartbeats 4000000 in
set_option maxRecDepth 100000 in
theorem lays_walk {w : World} {va vd : Value} {la : List DSt} {ia : Nat} {x : Int} (hF : Fours w) (hE : ErrT w) (h1 : StsC w va la) (ok1 : ∀ s ∈ la, s.ok) (hia : ia < 18446744073709551616)
    (OfC : ∀ W, Below w.heap.size w W → Calls Tryd.prog 8 #[vd, .int .i64 30] W fun e w' => ∃ ad c l io cnt, e = .returned (.tuple #[.agg #[.slice ad l.length c, .int .u64 (io : Nat)], .int .i64 cnt]) ∧ Sts w' (.slice ad l.length c) l ∧ Mid l ∧ io < 18446744073709551616 ∧ Below W.heap.size W w') :
    Calls Tryd.prog 3 #[.agg #[va, .int .u64 (ia : Int)], .int .i64 x, vd] w fun e w' => e = .returned (.bool true) ∧ Below w.heap.size w w' := by
  have WK : Hid (∀ W, Below w.heap.size w W → Calls Tryd.prog 14 #[] W fun e w' => e = .returned (.bool true) ∧ Below W.heap.size W w') := Lib.hid fun W hb => works_any (hF.below hb) (hE.below hb)
  have HF := Lib.hid hF
  obtain ⟨F, hF1⟩ : ∃ F, F = formedT la := ⟨_, rfl⟩
  obtain ⟨G, hG1⟩ : ∃ G, G = fewT la := ⟨_, rfl⟩
  have hFF : Mid F := by
    have := formedT_formed ok1
    rw [← hF1] at this
    exact ⟨by have := this.len; omega, fun s hs => Nat.le_trans (this.arcs s hs) (by omega), this.ok⟩
  have hGG : Mid G := by
    rw [hG1]
    exact ⟨by rw [fewT_length]; omega, fun s hs => Nat.le_trans (fewT_arcs la s hs) (by omega), fewT_ok ok1⟩
  have FA : Hid (∀ W, Below w.heap.size w W → Calls Tryd.prog 10 #[.agg #[va, .int .u64 (ia : Int)]] W fun e w' => ∃ v, e = .returned v ∧ (∃ ad k c, v = .agg #[.slice ad k c, .int .u64 (ia : Int)] ∧ Sts w' (.slice ad k c) F) ∧ Below W.heap.size W w') := Lib.hid fun W hb => by
    refine (formed_any (h1.below hb)).mono ?_
    rintro e w' ⟨ad, c, rfl, h2, h3⟩
    exact ⟨_, rfl, ⟨ad, _, c, rfl, by rw [hF1]; exact h2⟩, h3⟩
  have FG : Hid (∀ W, Below w.heap.size w W → Calls Tryd.prog 9 #[.agg #[va, .int .u64 (ia : Int)]] W fun e w' => ∃ v, e = .returned v ∧ (∃ ad k c, v = .agg #[.slice ad k c, .int .u64 (ia : Int)] ∧ Sts w' (.slice ad k c) G) ∧ Below W.heap.size W w') := Lib.hid fun W hb => by
    refine (few_any (h1.below hb)).mono ?_
    rintro e w' ⟨ad, c, xs, rfl, h2, h4, h3⟩
    exact ⟨_, rfl, ⟨ad, _, c, rfl, by rw [hG1, ← h4]; exact h2.sts⟩, h3⟩
  have HOF := Lib.hid OfC
  obtain ⟨w0, hw0⟩ : ∃ w0, w0 = w.alloc (.cells #[va, .int .u64 (ia : Int)] 25) := ⟨_, rfl⟩
  have hb0 : Below w.heap.size w w0 := by rw [hw0]; exact below_alloc w _
  have f0 : FstB w0 w.heap.size va ia := by rw [hw0]; exact heap_alloc_new w _
  have H0 := Lib.hid (And.intro hb0 f0)
  have HMD := Lib.hid (And.intro hFF (And.intro hGG hia))
  clear h1 ok1 hF hE hF1 hG1 hFF hGG hia OfC hb0 f0
  go_enter Tryd.func3, Tryd.ntmps3
  go_upto_region 1 with fail
  rw [← hw0]
  clear hw0
  go_upto_region 2 with (go_at_call 8
                         (with_reducible refine (HOF.out _ H0.out.1).mono ?_)
                         go_loud (
                         rintro e' w1 ⟨ad1, c1, lo, io, cnt, rfl, hs1, hm1, hi1, hb1⟩
                         have H1 := Lib.hid (And.intro hs1 (And.intro hm1 (And.intro hi1 hb1)))
                         clear hs1 hm1 hi1 hb1))
  obtain ⟨ko, hko⟩ : ∃ ko, lo.length = ko := ⟨_, rfl⟩
  rw [hko] at H1 ⊢
  obtain ⟨W1, hW1⟩ : ∃ W1, W1 = w1.alloc (.cells #[.slice ad1 ko c1, .int .u64 (io : Int)] 25) := ⟨_, rfl⟩
  obtain ⟨p1, hp1⟩ : ∃ p1, p1 = w1.heap.size := ⟨_, rfl⟩
  have hb1 : Below w1.heap.size w1 W1 := by rw [hW1]; exact below_alloc w1 _
  have hb01 : Below w0.heap.size w0 W1 := H1.out.2.2.2.trans (hb1.mono H1.out.2.2.2.size)
  have f1 : FstB W1 p1 (.slice ad1 ko c1) io := by rw [hW1, hp1]; exact heap_alloc_new w1 _
  have HC : Hid (∀ W, Below W1.heap.size W1 W → FstB W w.heap.size va ia ∧ FstB W p1 (.slice ad1 ko c1) io ∧ Sts W (.slice ad1 ko c1) lo ∧ Below w.heap.size w W) := Lib.hid fun W hb => by
    exact ⟨H0.out.2.kp (Kp.below (M := fun _ => False) (hb01.trans (hb.mono hb01.size))) (fun h => h), f1.kp (Kp.below (M := fun _ => False) hb) (fun h => h), (H1.out.1.below hb1).below hb, H0.out.1.trans ((hb01.trans (hb.mono hb01.size)).mono H0.out.1.size)⟩
  rw [← hW1]
  try rw [← hp1]
  clear hW1 hp1 hb1 hb01 f1 hko
  have hM1 : Mono (fun v W => ∃ ad k c, v = .agg #[.slice ad k c, .int .u64 (ia : Int)] ∧ Sts W (.slice ad k c) G) := by
    rintro v W W' hb ⟨ad, k, c, e, h⟩
    exact ⟨ad, k, c, e, h.below hb⟩
  have hM2 : Mono (fun v W => ∃ ad k c, v = .agg #[.slice ad k c, .int .u64 (ia : Int)] ∧ Sts W (.slice ad k c) F) := by
    rintro v W W' hb ⟨ad, k, c, e, h⟩
    exact ⟨ad, k, c, e, h.below hb⟩
  have hM3 : Mono (fun v W => ∃ ad k c ad' k' c', v = .agg #[.slice ad k c, .int .u64 (ia : Int), .slice ad' k' c', .int .u64 (ia : Int), .slice ad1 ko c1, .int .u64 (io : Int)] ∧ Sts W (.slice ad k c) G ∧ Sts W (.slice ad' k' c') F) := by
    rintro v W W' hb ⟨ad, k, c, ad', k', c', e, h, h'⟩
    exact ⟨ad, k, c, ad', k', c', e, h.below hb, h'.below hb⟩
  have HM := Lib.hid (And.intro hM1 (And.intro hM2 hM3))
  clear hM1 hM2 hM3
  refine Said.region (by kernel_rfl) (by kernel_rfl) (by kernel_rfl) [.is (.agg #[va, .int .u64 (ia : Int)]), .has (fun v W => ∃ ad k c, v = .agg #[.slice ad k c, .int .u64 (ia : Int)] ∧ Sts W (.slice ad k c) G), .is (.agg #[va, .int .u64 (ia : Int)]), .has (fun v W => ∃ ad k c, v = .agg #[.slice ad k c, .int .u64 (ia : Int)] ∧ Sts W (.slice ad k c) F),
    .is (.agg #[.slice ad1 ko c1, .int .u64 (io : Int)]), .has (fun v W => ∃ ad k c ad' k' c', v = .agg #[.slice ad k c, .int .u64 (ia : Int), .slice ad' k' c', .int .u64 (ia : Int), .slice ad1 ko c1, .int .u64 (io : Int)] ∧ Sts W (.slice ad k c) G ∧ Sts W (.slice ad' k' c') F), .is (.int .i64 0)] ?_
  simp only [List.toList_toArray]
  refine sq_pure (by rfl) (fun W hb _ => ?_) ?_
  · obtain ⟨y0, y1, -, -⟩ := HC.out W hb
    have y4 := y0.at0
    have y5 := y0.at1
    go_simp
  simp only [Act.put, List.setIfInBounds_toArray, List.set_cons_zero, List.set_cons_succ]
  refine sq_calls HM.out.1 (f := 9) (args := #[.agg #[va, .int .u64 (ia : Int)]]) (by rfl) (fun W => by go_simp) (fun W hb _ => FG.out W (HC.out W hb).2.2.2) (fun v23 => ?_)
  simp only [Act.put, List.setIfInBounds_toArray, List.set_cons_zero, List.set_cons_succ]
  refine sq_pure (by rfl) (fun W hb _ => ?_) ?_
  · obtain ⟨y0, y1, -, -⟩ := HC.out W hb
    have y4 := y0.at0
    have y5 := y0.at1
    go_simp
  simp only [Act.put, List.setIfInBounds_toArray, List.set_cons_zero, List.set_cons_succ]
  refine sq_calls HM.out.2.1 (f := 10) (args := #[.agg #[va, .int .u64 (ia : Int)]]) (by rfl) (fun W => by go_simp) (fun W hb _ => FA.out W (HC.out W hb).2.2.2) (fun v25 => ?_)
  simp only [Act.put, List.setIfInBounds_toArray, List.set_cons_zero, List.set_cons_succ]
  refine sq_pure (by rfl) (fun W hb _ => ?_) ?_
  · obtain ⟨y0, y1, -, -⟩ := HC.out W hb
    have y4 := y1.at0
    have y5 := y1.at1
    go_simp
  simp only [Act.put, List.setIfInBounds_toArray, List.set_cons_zero, List.set_cons_succ]
  refine sq_has HM.out.2.2 (fun W hb hf => ?_) (fun v27 => ?_)
  · obtain ⟨ad, k, c, e1, g1⟩ := hf.2.1 (by kernel_rfl)
    obtain ⟨ad', k', c', e2, g2⟩ := hf.1 (by kernel_rfl)
    subst e1 e2
    exact step_value (v := .agg #[.slice ad k c, .int .u64 (ia : Int), .slice ad' k' c', .int .u64 (ia : Int), .slice ad1 ko c1, .int .u64 (io : Int)]) (W' := W) (by rfl) (by go_simp) (Below.refl _ _) ⟨ad, k, c, ad', k', c', rfl, g1, g2⟩
  simp only [Act.put, List.setIfInBounds_toArray, List.set_cons_zero, List.set_cons_succ]
  refine sq_pure (by rfl) (fun W hb hf => by go_simp) ?_
  simp only [Act.put, List.setIfInBounds_toArray, List.set_cons_zero, List.set_cons_succ]
  refine sq_end (fun w3 hb3 hK3 => ?_)
  obtain ⟨ad2, k2, c2, ad3, k3, c3, rfl, g2, g3⟩ := hK3 _ (List.mem_cons_self ..)
  obtain ⟨-, -, g1, hbw⟩ := HC.out w3 hb3
  have H3 := Lib.hid (And.intro (show Sts w3 (.slice ad2 k2 c2) G from g2) (And.intro (show Sts w3 (.slice ad3 k3 c3) F from g3) (And.intro g1 hbw)))
  clear hK3 hb3 g1 g2 g3 hbw
  have t0 := tri_0
  have t1 := tri_1
  have t2 := tri_2
  go_wp2
  go_loopw [28] (fun s28 W => ∃ k : Nat, k ≤ 3 ∧ s28 = .int .i64 k ∧ Hid (Below w3.heap.size w3 W)) (fun s28 _ => 3 - (intOf s28).toNat)
  case atStart => exact ⟨0, by omega, rfl, Lib.hid (Below.refl _ _)⟩
  case round =>
    obtain ⟨k, hk, rfl, HK⟩ := hrel
    have HKW := Lib.hid (H3.out.2.2.2.trans (HK.out.mono H3.out.2.2.2.size))
    rcases (show k = 0 ∨ k = 1 ∨ k = 2 ∨ k = 3 by omega) with rfl | rfl | rfl | rfl
    · rw [show ((0 : Nat) : Int) = 0 from rfl]
      obtain ⟨W4, hW4⟩ : ∃ W4, W4 = wr.alloc (.cells #[.slice ad2 k2 c2, .int .u64 (ia : Int)] 25) := ⟨_, rfl⟩
      obtain ⟨p, hp⟩ : ∃ p, p = wr.heap.size := ⟨_, rfl⟩
      have f4 : FstB W4 p (.slice ad2 k2 c2) ia := by rw [hW4, hp]; exact heap_alloc_new wr _
      have hb4 : Below wr.heap.size wr W4 := by rw [hW4]; exact below_alloc wr _
      have hs4 : Sts W4 (.slice ad2 k2 c2) G := (H3.out.1.below HK.out).below hb4
      have HX : Hid (∀ W, Below W4.heap.size W4 W → FstB W p (.slice ad2 k2 c2) ia ∧ Sts W (.slice ad2 k2 c2) G ∧ Fours W) := Lib.hid fun W hb => ⟨f4.kp (Kp.below (M := fun _ => False) hb) (fun h => h), hs4.below hb, (HF.out.below HKW.out).below (hb4.trans (hb.mono hb4.size))⟩
      have H4 := Lib.hid (HK.out.trans (hb4.mono HK.out.size))
      go_upto_region 5 with fail
      rw [← hW4, ← hp]
      clear hW4 hp f4 hb4 hs4
      go_wp2
      obtain ⟨x2, hx2⟩ : ∃ x2, Int.tmod x 1000 = x2 := ⟨_, rfl⟩
      rw [hx2]
      clear hx2
      have q0 := qua_0
      have q1 := qua_1
      have q2 := qua_2
      have q3 := qua_3
      go_loopw [36] (fun s36 W => ∃ j : Nat, j ≤ 4 ∧ s36 = .int .i64 j ∧ Hid (Below W4.heap.size W4 W)) (fun s36 _ => 4 - (intOf s36).toNat)
      case atStart => exact ⟨0, by omega, rfl, Lib.hid (Below.refl _ _)⟩
      case round =>
        obtain ⟨j, hj, rfl, HJ⟩ := hrel
        rcases (show j = 0 ∨ j = 1 ∨ j = 2 ∨ j = 3 ∨ j = 4 by omega) with rfl | rfl | rfl | rfl | rfl
        · rw [show ((0 : Nat) : Int) = 0 from rfl]
          obtain ⟨S, c, PS⟩ := puts_any HMD.out.2.1 HMD.out.2.2 x
          have HP := Lib.hid PS
          obtain ⟨f5, s5, F5⟩ := HX.out wr HJ.out
          have y0 := f5.at0
          have y1 := f5.at1
          have Q1 := Lib.hid (HP.out wr F5 _ s5).1
          clear PS f5 s5 F5
          go_wp2_with (first
            | (go_at_call 11
               (with_reducible refine Q1.out.mono ?_)
               go_loud (
               rintro e' v1 ⟨rfl, hb1⟩
               have HV1 := Lib.hid (HJ.out.trans (hb1.mono HJ.out.size))
               obtain ⟨f5, s5, F5⟩ := HX.out v1 HV1.out
               have y2 := f5.at0
               have y3 := f5.at1
               have Q2 := Lib.hid (HP.out v1 F5 _ s5).2.1
               clear hb1 y0 y1 f5 s5 F5))
            | (go_at_call 12
               (with_reducible refine Q2.out.mono ?_)
               go_loud (
               rintro e' v2 ⟨rfl, hb2⟩
               have HV2 := Lib.hid (HV1.out.trans (hb2.mono HV1.out.size))
               obtain ⟨f5, s5, F5⟩ := HX.out v2 HV2.out
               have y0 := f5.at0
               have y1 := f5.at1
               have Q3 := Lib.hid (HP.out v2 F5 _ s5).2.2
               clear hb2 y2 y3 f5 s5 F5))
            | (go_at_call 13
               (with_reducible refine Q3.out.mono ?_)
               go_loud (
               rintro e' v3 ⟨rfl, hb3⟩
               have HV3 := Lib.hid (HV2.out.trans (hb3.mono HV2.out.size))
               clear hb3)))
          exact ⟨⟨1, by omega, by first | rfl | go_num, HV3⟩, by simp [intOf]⟩
        · rw [show ((1 : Nat) : Int) = 1 from rfl]
          obtain ⟨S, c, PS⟩ := puts_any HMD.out.2.1 HMD.out.2.2 x2
          have HP := Lib.hid PS
          obtain ⟨f5, s5, F5⟩ := HX.out wr HJ.out
          have y0 := f5.at0
          have y1 := f5.at1
          have Q1 := Lib.hid (HP.out wr F5 _ s5).1
          clear PS f5 s5 F5
          go_wp2_with (first
            | (go_at_call 11
               (with_reducible refine Q1.out.mono ?_)
               go_loud (
               rintro e' v1 ⟨rfl, hb1⟩
               have HV1 := Lib.hid (HJ.out.trans (hb1.mono HJ.out.size))
               obtain ⟨f5, s5, F5⟩ := HX.out v1 HV1.out
               have y2 := f5.at0
               have y3 := f5.at1
               have Q2 := Lib.hid (HP.out v1 F5 _ s5).2.1
               clear hb1 y0 y1 f5 s5 F5))
            | (go_at_call 12
               (with_reducible refine Q2.out.mono ?_)
               go_loud (
               rintro e' v2 ⟨rfl, hb2⟩
               have HV2 := Lib.hid (HV1.out.trans (hb2.mono HV1.out.size))
               obtain ⟨f5, s5, F5⟩ := HX.out v2 HV2.out
               have y0 := f5.at0
               have y1 := f5.at1
               have Q3 := Lib.hid (HP.out v2 F5 _ s5).2.2
               clear hb2 y2 y3 f5 s5 F5))
            | (go_at_call 13
               (with_reducible refine Q3.out.mono ?_)
               go_loud (
               rintro e' v3 ⟨rfl, hb3⟩
               have HV3 := Lib.hid (HV2.out.trans (hb3.mono HV2.out.size))
               clear hb3)))
          exact ⟨⟨2, by omega, by first | rfl | go_num, HV3⟩, by simp [intOf]⟩
        · rw [show ((2 : Nat) : Int) = 2 from rfl]
          obtain ⟨S, c, PS⟩ := puts_any HMD.out.2.1 HMD.out.2.2 cnt
          have HP := Lib.hid PS
          obtain ⟨f5, s5, F5⟩ := HX.out wr HJ.out
          have y0 := f5.at0
          have y1 := f5.at1
          have Q1 := Lib.hid (HP.out wr F5 _ s5).1
          clear PS f5 s5 F5
          go_wp2_with (first
            | (go_at_call 11
               (with_reducible refine Q1.out.mono ?_)
               go_loud (
               rintro e' v1 ⟨rfl, hb1⟩
               have HV1 := Lib.hid (HJ.out.trans (hb1.mono HJ.out.size))
               obtain ⟨f5, s5, F5⟩ := HX.out v1 HV1.out
               have y2 := f5.at0
               have y3 := f5.at1
               have Q2 := Lib.hid (HP.out v1 F5 _ s5).2.1
               clear hb1 y0 y1 f5 s5 F5))
            | (go_at_call 12
               (with_reducible refine Q2.out.mono ?_)
               go_loud (
               rintro e' v2 ⟨rfl, hb2⟩
               have HV2 := Lib.hid (HV1.out.trans (hb2.mono HV1.out.size))
               obtain ⟨f5, s5, F5⟩ := HX.out v2 HV2.out
               have y0 := f5.at0
               have y1 := f5.at1
               have Q3 := Lib.hid (HP.out v2 F5 _ s5).2.2
               clear hb2 y2 y3 f5 s5 F5))
            | (go_at_call 13
               (with_reducible refine Q3.out.mono ?_)
               go_loud (
               rintro e' v3 ⟨rfl, hb3⟩
               have HV3 := Lib.hid (HV2.out.trans (hb3.mono HV2.out.size))
               clear hb3)))
          exact ⟨⟨3, by omega, by first | rfl | go_num, HV3⟩, by simp [intOf]⟩
        · rw [show ((3 : Nat) : Int) = 3 from rfl]
          obtain ⟨S, c, PS⟩ := puts_any HMD.out.2.1 HMD.out.2.2 100000
          have HP := Lib.hid PS
          obtain ⟨f5, s5, F5⟩ := HX.out wr HJ.out
          have y0 := f5.at0
          have y1 := f5.at1
          have Q1 := Lib.hid (HP.out wr F5 _ s5).1
          clear PS f5 s5 F5
          go_wp2_with (first
            | (go_at_call 11
               (with_reducible refine Q1.out.mono ?_)
               go_loud (
               rintro e' v1 ⟨rfl, hb1⟩
               have HV1 := Lib.hid (HJ.out.trans (hb1.mono HJ.out.size))
               obtain ⟨f5, s5, F5⟩ := HX.out v1 HV1.out
               have y2 := f5.at0
               have y3 := f5.at1
               have Q2 := Lib.hid (HP.out v1 F5 _ s5).2.1
               clear hb1 y0 y1 f5 s5 F5))
            | (go_at_call 12
               (with_reducible refine Q2.out.mono ?_)
               go_loud (
               rintro e' v2 ⟨rfl, hb2⟩
               have HV2 := Lib.hid (HV1.out.trans (hb2.mono HV1.out.size))
               obtain ⟨f5, s5, F5⟩ := HX.out v2 HV2.out
               have y0 := f5.at0
               have y1 := f5.at1
               have Q3 := Lib.hid (HP.out v2 F5 _ s5).2.2
               clear hb2 y2 y3 f5 s5 F5))
            | (go_at_call 13
               (with_reducible refine Q3.out.mono ?_)
               go_loud (
               rintro e' v3 ⟨rfl, hb3⟩
               have HV3 := Lib.hid (HV2.out.trans (hb3.mono HV2.out.size))
               clear hb3)))
          exact ⟨⟨4, by omega, by first | rfl | go_num, HV3⟩, by simp [intOf]⟩
        · rw [show ((4 : Nat) : Int) = 4 from rfl]
          go_wp2
          exact ⟨⟨1, by omega, by first | rfl | go_num, Lib.hid (H4.out.trans (HJ.out.mono H4.out.size))⟩, by simp [intOf]⟩
    · rw [show ((1 : Nat) : Int) = 1 from rfl]
      obtain ⟨W4, hW4⟩ : ∃ W4, W4 = wr.alloc (.cells #[.slice ad3 k3 c3, .int .u64 (ia : Int)] 25) := ⟨_, rfl⟩
      obtain ⟨p, hp⟩ : ∃ p, p = wr.heap.size := ⟨_, rfl⟩
      have f4 : FstB W4 p (.slice ad3 k3 c3) ia := by rw [hW4, hp]; exact heap_alloc_new wr _
      have hb4 : Below wr.heap.size wr W4 := by rw [hW4]; exact below_alloc wr _
      have hs4 : Sts W4 (.slice ad3 k3 c3) F := (H3.out.2.1.below HK.out).below hb4
      have HX : Hid (∀ W, Below W4.heap.size W4 W → FstB W p (.slice ad3 k3 c3) ia ∧ Sts W (.slice ad3 k3 c3) F ∧ Fours W) := Lib.hid fun W hb => ⟨f4.kp (Kp.below (M := fun _ => False) hb) (fun h => h), hs4.below hb, (HF.out.below HKW.out).below (hb4.trans (hb.mono hb4.size))⟩
      have H4 := Lib.hid (HK.out.trans (hb4.mono HK.out.size))
      go_upto_region 5 with fail
      rw [← hW4, ← hp]
      clear hW4 hp f4 hb4 hs4
      go_wp2
      obtain ⟨x2, hx2⟩ : ∃ x2, Int.tmod x 1000 = x2 := ⟨_, rfl⟩
      rw [hx2]
      clear hx2
      have q0 := qua_0
      have q1 := qua_1
      have q2 := qua_2
      have q3 := qua_3
      go_loopw [36] (fun s36 W => ∃ j : Nat, j ≤ 4 ∧ s36 = .int .i64 j ∧ Hid (Below W4.heap.size W4 W)) (fun s36 _ => 4 - (intOf s36).toNat)
      case atStart => exact ⟨0, by omega, rfl, Lib.hid (Below.refl _ _)⟩
      case round =>
        obtain ⟨j, hj, rfl, HJ⟩ := hrel
        rcases (show j = 0 ∨ j = 1 ∨ j = 2 ∨ j = 3 ∨ j = 4 by omega) with rfl | rfl | rfl | rfl | rfl
        · rw [show ((0 : Nat) : Int) = 0 from rfl]
          obtain ⟨S, c, PS⟩ := puts_any HMD.out.1 HMD.out.2.2 x
          have HP := Lib.hid PS
          obtain ⟨f5, s5, F5⟩ := HX.out wr HJ.out
          have y0 := f5.at0
          have y1 := f5.at1
          have Q1 := Lib.hid (HP.out wr F5 _ s5).1
          clear PS f5 s5 F5
          go_wp2_with (first
            | (go_at_call 11
               (with_reducible refine Q1.out.mono ?_)
               go_loud (
               rintro e' v1 ⟨rfl, hb1⟩
               have HV1 := Lib.hid (HJ.out.trans (hb1.mono HJ.out.size))
               obtain ⟨f5, s5, F5⟩ := HX.out v1 HV1.out
               have y2 := f5.at0
               have y3 := f5.at1
               have Q2 := Lib.hid (HP.out v1 F5 _ s5).2.1
               clear hb1 y0 y1 f5 s5 F5))
            | (go_at_call 12
               (with_reducible refine Q2.out.mono ?_)
               go_loud (
               rintro e' v2 ⟨rfl, hb2⟩
               have HV2 := Lib.hid (HV1.out.trans (hb2.mono HV1.out.size))
               obtain ⟨f5, s5, F5⟩ := HX.out v2 HV2.out
               have y0 := f5.at0
               have y1 := f5.at1
               have Q3 := Lib.hid (HP.out v2 F5 _ s5).2.2
               clear hb2 y2 y3 f5 s5 F5))
            | (go_at_call 13
               (with_reducible refine Q3.out.mono ?_)
               go_loud (
               rintro e' v3 ⟨rfl, hb3⟩
               have HV3 := Lib.hid (HV2.out.trans (hb3.mono HV2.out.size))
               clear hb3)))
          exact ⟨⟨1, by omega, by first | rfl | go_num, HV3⟩, by simp [intOf]⟩
        · rw [show ((1 : Nat) : Int) = 1 from rfl]
          obtain ⟨S, c, PS⟩ := puts_any HMD.out.1 HMD.out.2.2 x2
          have HP := Lib.hid PS
          obtain ⟨f5, s5, F5⟩ := HX.out wr HJ.out
          have y0 := f5.at0
          have y1 := f5.at1
          have Q1 := Lib.hid (HP.out wr F5 _ s5).1
          clear PS f5 s5 F5
          go_wp2_with (first
            | (go_at_call 11
               (with_reducible refine Q1.out.mono ?_)
               go_loud (
               rintro e' v1 ⟨rfl, hb1⟩
               have HV1 := Lib.hid (HJ.out.trans (hb1.mono HJ.out.size))
               obtain ⟨f5, s5, F5⟩ := HX.out v1 HV1.out
               have y2 := f5.at0
               have y3 := f5.at1
               have Q2 := Lib.hid (HP.out v1 F5 _ s5).2.1
               clear hb1 y0 y1 f5 s5 F5))
            | (go_at_call 12
               (with_reducible refine Q2.out.mono ?_)
               go_loud (
               rintro e' v2 ⟨rfl, hb2⟩
               have HV2 := Lib.hid (HV1.out.trans (hb2.mono HV1.out.size))
               obtain ⟨f5, s5, F5⟩ := HX.out v2 HV2.out
               have y0 := f5.at0
               have y1 := f5.at1
               have Q3 := Lib.hid (HP.out v2 F5 _ s5).2.2
               clear hb2 y2 y3 f5 s5 F5))
            | (go_at_call 13
               (with_reducible refine Q3.out.mono ?_)
               go_loud (
               rintro e' v3 ⟨rfl, hb3⟩
               have HV3 := Lib.hid (HV2.out.trans (hb3.mono HV2.out.size))
               clear hb3)))
          exact ⟨⟨2, by omega, by first | rfl | go_num, HV3⟩, by simp [intOf]⟩
        · rw [show ((2 : Nat) : Int) = 2 from rfl]
          obtain ⟨S, c, PS⟩ := puts_any HMD.out.1 HMD.out.2.2 cnt
          have HP := Lib.hid PS
          obtain ⟨f5, s5, F5⟩ := HX.out wr HJ.out
          have y0 := f5.at0
          have y1 := f5.at1
          have Q1 := Lib.hid (HP.out wr F5 _ s5).1
          clear PS f5 s5 F5
          go_wp2_with (first
            | (go_at_call 11
               (with_reducible refine Q1.out.mono ?_)
               go_loud (
               rintro e' v1 ⟨rfl, hb1⟩
               have HV1 := Lib.hid (HJ.out.trans (hb1.mono HJ.out.size))
               obtain ⟨f5, s5, F5⟩ := HX.out v1 HV1.out
               have y2 := f5.at0
               have y3 := f5.at1
               have Q2 := Lib.hid (HP.out v1 F5 _ s5).2.1
               clear hb1 y0 y1 f5 s5 F5))
            | (go_at_call 12
               (with_reducible refine Q2.out.mono ?_)
               go_loud (
               rintro e' v2 ⟨rfl, hb2⟩
               have HV2 := Lib.hid (HV1.out.trans (hb2.mono HV1.out.size))
               obtain ⟨f5, s5, F5⟩ := HX.out v2 HV2.out
               have y0 := f5.at0
               have y1 := f5.at1
               have Q3 := Lib.hid (HP.out v2 F5 _ s5).2.2
               clear hb2 y2 y3 f5 s5 F5))
            | (go_at_call 13
               (with_reducible refine Q3.out.mono ?_)
               go_loud (
               rintro e' v3 ⟨rfl, hb3⟩
               have HV3 := Lib.hid (HV2.out.trans (hb3.mono HV2.out.size))
               clear hb3)))
          exact ⟨⟨3, by omega, by first | rfl | go_num, HV3⟩, by simp [intOf]⟩
        · rw [show ((3 : Nat) : Int) = 3 from rfl]
          obtain ⟨S, c, PS⟩ := puts_any HMD.out.1 HMD.out.2.2 100000
          have HP := Lib.hid PS
          obtain ⟨f5, s5, F5⟩ := HX.out wr HJ.out
          have y0 := f5.at0
          have y1 := f5.at1
          have Q1 := Lib.hid (HP.out wr F5 _ s5).1
          clear PS f5 s5 F5
          go_wp2_with (first
            | (go_at_call 11
               (with_reducible refine Q1.out.mono ?_)
               go_loud (
               rintro e' v1 ⟨rfl, hb1⟩
               have HV1 := Lib.hid (HJ.out.trans (hb1.mono HJ.out.size))
               obtain ⟨f5, s5, F5⟩ := HX.out v1 HV1.out
               have y2 := f5.at0
               have y3 := f5.at1
               have Q2 := Lib.hid (HP.out v1 F5 _ s5).2.1
               clear hb1 y0 y1 f5 s5 F5))
            | (go_at_call 12
               (with_reducible refine Q2.out.mono ?_)
               go_loud (
               rintro e' v2 ⟨rfl, hb2⟩
               have HV2 := Lib.hid (HV1.out.trans (hb2.mono HV1.out.size))
               obtain ⟨f5, s5, F5⟩ := HX.out v2 HV2.out
               have y0 := f5.at0
               have y1 := f5.at1
               have Q3 := Lib.hid (HP.out v2 F5 _ s5).2.2
               clear hb2 y2 y3 f5 s5 F5))
            | (go_at_call 13
               (with_reducible refine Q3.out.mono ?_)
               go_loud (
               rintro e' v3 ⟨rfl, hb3⟩
               have HV3 := Lib.hid (HV2.out.trans (hb3.mono HV2.out.size))
               clear hb3)))
          exact ⟨⟨4, by omega, by first | rfl | go_num, HV3⟩, by simp [intOf]⟩
        · rw [show ((4 : Nat) : Int) = 4 from rfl]
          go_wp2
          exact ⟨⟨2, by omega, by first | rfl | go_num, Lib.hid (H4.out.trans (HJ.out.mono H4.out.size))⟩, by simp [intOf]⟩
    · rw [show ((2 : Nat) : Int) = 2 from rfl]
      obtain ⟨W4, hW4⟩ : ∃ W4, W4 = wr.alloc (.cells #[.slice ad1 ko c1, .int .u64 (io : Int)] 25) := ⟨_, rfl⟩
      obtain ⟨p, hp⟩ : ∃ p, p = wr.heap.size := ⟨_, rfl⟩
      have f4 : FstB W4 p (.slice ad1 ko c1) io := by rw [hW4, hp]; exact heap_alloc_new wr _
      have hb4 : Below wr.heap.size wr W4 := by rw [hW4]; exact below_alloc wr _
      have hs4 : Sts W4 (.slice ad1 ko c1) lo := (H3.out.2.2.1.below HK.out).below hb4
      have HX : Hid (∀ W, Below W4.heap.size W4 W → FstB W p (.slice ad1 ko c1) io ∧ Sts W (.slice ad1 ko c1) lo ∧ Fours W) := Lib.hid fun W hb => ⟨f4.kp (Kp.below (M := fun _ => False) hb) (fun h => h), hs4.below hb, (HF.out.below HKW.out).below (hb4.trans (hb.mono hb4.size))⟩
      have H4 := Lib.hid (HK.out.trans (hb4.mono HK.out.size))
      go_upto_region 5 with fail
      rw [← hW4, ← hp]
      clear hW4 hp f4 hb4 hs4
      go_wp2
      obtain ⟨x2, hx2⟩ : ∃ x2, Int.tmod x 1000 = x2 := ⟨_, rfl⟩
      rw [hx2]
      clear hx2
      have q0 := qua_0
      have q1 := qua_1
      have q2 := qua_2
      have q3 := qua_3
      go_loopw [36] (fun s36 W => ∃ j : Nat, j ≤ 4 ∧ s36 = .int .i64 j ∧ Hid (Below W4.heap.size W4 W)) (fun s36 _ => 4 - (intOf s36).toNat)
      case atStart => exact ⟨0, by omega, rfl, Lib.hid (Below.refl _ _)⟩
      case round =>
        obtain ⟨j, hj, rfl, HJ⟩ := hrel
        rcases (show j = 0 ∨ j = 1 ∨ j = 2 ∨ j = 3 ∨ j = 4 by omega) with rfl | rfl | rfl | rfl | rfl
        · rw [show ((0 : Nat) : Int) = 0 from rfl]
          obtain ⟨S, c, PS⟩ := puts_any H1.out.2.1 H1.out.2.2.1 x
          have HP := Lib.hid PS
          obtain ⟨f5, s5, F5⟩ := HX.out wr HJ.out
          have y0 := f5.at0
          have y1 := f5.at1
          have Q1 := Lib.hid (HP.out wr F5 _ s5).1
          clear PS f5 s5 F5
          go_wp2_with (first
            | (go_at_call 11
               (with_reducible refine Q1.out.mono ?_)
               go_loud (
               rintro e' v1 ⟨rfl, hb1⟩
               have HV1 := Lib.hid (HJ.out.trans (hb1.mono HJ.out.size))
               obtain ⟨f5, s5, F5⟩ := HX.out v1 HV1.out
               have y2 := f5.at0
               have y3 := f5.at1
               have Q2 := Lib.hid (HP.out v1 F5 _ s5).2.1
               clear hb1 y0 y1 f5 s5 F5))
            | (go_at_call 12
               (with_reducible refine Q2.out.mono ?_)
               go_loud (
               rintro e' v2 ⟨rfl, hb2⟩
               have HV2 := Lib.hid (HV1.out.trans (hb2.mono HV1.out.size))
               obtain ⟨f5, s5, F5⟩ := HX.out v2 HV2.out
               have y0 := f5.at0
               have y1 := f5.at1
               have Q3 := Lib.hid (HP.out v2 F5 _ s5).2.2
               clear hb2 y2 y3 f5 s5 F5))
            | (go_at_call 13
               (with_reducible refine Q3.out.mono ?_)
               go_loud (
               rintro e' v3 ⟨rfl, hb3⟩
               have HV3 := Lib.hid (HV2.out.trans (hb3.mono HV2.out.size))
               clear hb3)))
          exact ⟨⟨1, by omega, by first | rfl | go_num, HV3⟩, by simp [intOf]⟩
        · rw [show ((1 : Nat) : Int) = 1 from rfl]
          obtain ⟨S, c, PS⟩ := puts_any H1.out.2.1 H1.out.2.2.1 x2
          have HP := Lib.hid PS
          obtain ⟨f5, s5, F5⟩ := HX.out wr HJ.out
          have y0 := f5.at0
          have y1 := f5.at1
          have Q1 := Lib.hid (HP.out wr F5 _ s5).1
          clear PS f5 s5 F5
          go_wp2_with (first
            | (go_at_call 11
               (with_reducible refine Q1.out.mono ?_)
               go_loud (
               rintro e' v1 ⟨rfl, hb1⟩
               have HV1 := Lib.hid (HJ.out.trans (hb1.mono HJ.out.size))
               obtain ⟨f5, s5, F5⟩ := HX.out v1 HV1.out
               have y2 := f5.at0
               have y3 := f5.at1
               have Q2 := Lib.hid (HP.out v1 F5 _ s5).2.1
               clear hb1 y0 y1 f5 s5 F5))
            | (go_at_call 12
               (with_reducible refine Q2.out.mono ?_)
               go_loud (
               rintro e' v2 ⟨rfl, hb2⟩
               have HV2 := Lib.hid (HV1.out.trans (hb2.mono HV1.out.size))
               obtain ⟨f5, s5, F5⟩ := HX.out v2 HV2.out
               have y0 := f5.at0
               have y1 := f5.at1
               have Q3 := Lib.hid (HP.out v2 F5 _ s5).2.2
               clear hb2 y2 y3 f5 s5 F5))
            | (go_at_call 13
               (with_reducible refine Q3.out.mono ?_)
               go_loud (
               rintro e' v3 ⟨rfl, hb3⟩
               have HV3 := Lib.hid (HV2.out.trans (hb3.mono HV2.out.size))
               clear hb3)))
          exact ⟨⟨2, by omega, by first | rfl | go_num, HV3⟩, by simp [intOf]⟩
        · rw [show ((2 : Nat) : Int) = 2 from rfl]
          obtain ⟨S, c, PS⟩ := puts_any H1.out.2.1 H1.out.2.2.1 cnt
          have HP := Lib.hid PS
          obtain ⟨f5, s5, F5⟩ := HX.out wr HJ.out
          have y0 := f5.at0
          have y1 := f5.at1
          have Q1 := Lib.hid (HP.out wr F5 _ s5).1
          clear PS f5 s5 F5
          go_wp2_with (first
            | (go_at_call 11
               (with_reducible refine Q1.out.mono ?_)
               go_loud (
               rintro e' v1 ⟨rfl, hb1⟩
               have HV1 := Lib.hid (HJ.out.trans (hb1.mono HJ.out.size))
               obtain ⟨f5, s5, F5⟩ := HX.out v1 HV1.out
               have y2 := f5.at0
               have y3 := f5.at1
               have Q2 := Lib.hid (HP.out v1 F5 _ s5).2.1
               clear hb1 y0 y1 f5 s5 F5))
            | (go_at_call 12
               (with_reducible refine Q2.out.mono ?_)
               go_loud (
               rintro e' v2 ⟨rfl, hb2⟩
               have HV2 := Lib.hid (HV1.out.trans (hb2.mono HV1.out.size))
               obtain ⟨f5, s5, F5⟩ := HX.out v2 HV2.out
               have y0 := f5.at0
               have y1 := f5.at1
               have Q3 := Lib.hid (HP.out v2 F5 _ s5).2.2
               clear hb2 y2 y3 f5 s5 F5))
            | (go_at_call 13
               (with_reducible refine Q3.out.mono ?_)
               go_loud (
               rintro e' v3 ⟨rfl, hb3⟩
               have HV3 := Lib.hid (HV2.out.trans (hb3.mono HV2.out.size))
               clear hb3)))
          exact ⟨⟨3, by omega, by first | rfl | go_num, HV3⟩, by simp [intOf]⟩
        · rw [show ((3 : Nat) : Int) = 3 from rfl]
          obtain ⟨S, c, PS⟩ := puts_any H1.out.2.1 H1.out.2.2.1 100000
          have HP := Lib.hid PS
          obtain ⟨f5, s5, F5⟩ := HX.out wr HJ.out
          have y0 := f5.at0
          have y1 := f5.at1
          have Q1 := Lib.hid (HP.out wr F5 _ s5).1
          clear PS f5 s5 F5
          go_wp2_with (first
            | (go_at_call 11
               (with_reducible refine Q1.out.mono ?_)
               go_loud (
               rintro e' v1 ⟨rfl, hb1⟩
               have HV1 := Lib.hid (HJ.out.trans (hb1.mono HJ.out.size))
               obtain ⟨f5, s5, F5⟩ := HX.out v1 HV1.out
               have y2 := f5.at0
               have y3 := f5.at1
               have Q2 := Lib.hid (HP.out v1 F5 _ s5).2.1
               clear hb1 y0 y1 f5 s5 F5))
            | (go_at_call 12
               (with_reducible refine Q2.out.mono ?_)
               go_loud (
               rintro e' v2 ⟨rfl, hb2⟩
               have HV2 := Lib.hid (HV1.out.trans (hb2.mono HV1.out.size))
               obtain ⟨f5, s5, F5⟩ := HX.out v2 HV2.out
               have y0 := f5.at0
               have y1 := f5.at1
               have Q3 := Lib.hid (HP.out v2 F5 _ s5).2.2
               clear hb2 y2 y3 f5 s5 F5))
            | (go_at_call 13
               (with_reducible refine Q3.out.mono ?_)
               go_loud (
               rintro e' v3 ⟨rfl, hb3⟩
               have HV3 := Lib.hid (HV2.out.trans (hb3.mono HV2.out.size))
               clear hb3)))
          exact ⟨⟨4, by omega, by first | rfl | go_num, HV3⟩, by simp [intOf]⟩
        · rw [show ((4 : Nat) : Int) = 4 from rfl]
          go_wp2
          exact ⟨⟨3, by omega, by first | rfl | go_num, Lib.hid (H4.out.trans (HJ.out.mono H4.out.size))⟩, by simp [intOf]⟩
    · rw [show ((3 : Nat) : Int) = 3 from rfl]
      go_wp2_with (go_at_call 14
                   (with_reducible refine (WK.out _ HKW.out).mono ?_)
                   go_loud (
                   rintro e' v4 ⟨rfl, hb4⟩
                   have HW5 := Lib.hid (HKW.out.trans (hb4.mono HKW.out.size))
                   clear hb4))
      go_ret
      exact ⟨rfl, HW5.out⟩
end Go.Proofs.YtjiilmiikejnhaaDoor

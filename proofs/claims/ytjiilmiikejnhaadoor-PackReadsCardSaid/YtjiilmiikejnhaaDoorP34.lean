/-
  PackBack: what its calls answer. PackBack: the walk.
-/
import Derived.Test.YtjiilmiikejnhaaDoorP33
import Derived.Test.YtjiilmiikejnhaaDoorP26
import Derived.Test.YtjiilmiikejnhaaDoorP27
import Derived.Deep.DeepCutAuto
set_option linter.unusedVariables false
set_option linter.unusedSimpArgs false
namespace Go.Proofs.YtjiilmiikejnhaaDoor
open Go.RowKit Go.Shelf Said

theorem sealed_opened {y : ByteArray} (h : isSeal y = true) : sealed (opened y) = y := by
  have h' := h
  unfold isSeal at h'
  simp only [Bool.and_eq_true, decide_eq_true_eq] at h'
  obtain ⟨h4, h5⟩ := h'
  have e := (body_last y h4).1
  have h6 : opened y = body y := by unfold opened; rw [if_pos h]
  rw [h6]
  have e2 : (sealed (body y)).data.toList = y.data.toList := by
    rw [sealed_list, e, h5]
    rfl
  exact ByteArray.ext (Array.toList_inj.1 e2)
theorem readR_ok {y : ByteArray} (hy : y.size ≤ 1000) {n init : Nat} {l : List DSt} (h : readR y = .ok (n, l, init)) :
    y = sealed ⟨(layT n l init).toArray⟩ ∧ n ≤ 100000 ∧ init < 18446744073709551616 ∧ l ≠ [] ∧ (∀ x ∈ l, x.ok) ∧ maySs 0 l = true ∧ l.length ≤ 1000 ∧ (layT n l init).length ≤ 1000 := by
  unfold readR at h
  split at h
  · rename_i hs
    have ho : (opened y).data.toList.length ≤ 1000 := by
      have := opened_size y
      have e : (opened y).data.toList.length = (opened y).size := rfl
      omega
    obtain ⟨h1, h2, h3, h4, h5, h6, h7⟩ := bodyR_ok (by omega) h
    refine ⟨?_, h2, h3, h4, h5, h6, by omega, by rw [← h1]; exact ho⟩
    rw [← h1]
    exact (sealed_opened hs).symm
  · cases h
theorem maySs_arcs : ∀ {l : List DSt} {o : Nat}, maySs o l = true → ∀ s ∈ l, s.arcs.length ≤ 256
  | [], _, _ => by simp
  | x :: l, o, h => by
    simp only [maySs, Bool.and_eq_true] at h
    intro s hs
    rcases List.mem_cons.1 hs with rfl | hs
    · have := h.1
      simp only [mayS, Bool.and_eq_true, decide_eq_true_eq] at this
      exact this.1
    · exact maySs_arcs h.2 s hs
theorem mayT_of {n : Nat} {l : List DSt} (hn : n ≤ 100000) (hl : l ≠ []) (h : maySs 0 l = true) : mayT (n : Int) l = true := by
  unfold mayT
  rw [h]
  cases l with
  | nil => exact absurd rfl hl
  | cons x l => simp; omega
/-- What is read of some bytes is laid again just so. -/
theorem again_put {y : ByteArray} (hy : y.size ≤ 1000) {n init : Nat} {l : List DSt} (h : readR y = .ok (n, l, init)) {W : World} (hF : Fours W) {v : Value} (hv : Sts W v l) :
    Calls Tryd.prog 11 #[.int .i64 (n : Int), .agg #[v, .int .u64 (init : Int)]] W fun e w' => e = .returned (.tuple #[.string y, .int .i64 0]) ∧ Below W.heap.size W w' := by
  obtain ⟨h1, h2, h3, h4, h5, h6, h7, h8⟩ := readR_ok hy h
  have := packPut_yes hF hv (by omega) (fun s hs => Nat.le_trans (maySs_arcs h6 s hs) (by omega)) (mayT_of h2 h4 h6) h2 h3 h6 h5 (by omega)
  rwa [← h1] at this
theorem formed_put {n init : Nat} {l : List DSt} (hn : n ≤ 100000) (hi : init < 18446744073709551616) (h : Formed l) {W : World} (hF : Fours W) {v : Value} (hv : Sts W v l) :
    Calls Tryd.prog 11 #[.int .i64 (n : Int), .agg #[v, .int .u64 (init : Int)]] W fun e w' => e = .returned (.tuple #[.string (sealed ⟨(layT n l init).toArray⟩), .int .i64 0]) ∧ Below W.heap.size W w' :=
  packPut_yes hF hv (by have := h.len; omega) (fun s hs => Nat.le_trans (h.arcs s hs) (by omega)) (formed_may hn h) hn hi h.may h.ok (by have := layT_le hn hi h; omega)
theorem formed_get {n init : Nat} {l : List DSt} (hn : n ≤ 100000) (hi : init < 18446744073709551616) (h : Formed l) {W : World} (hF : Fours W) :
    Calls Tryd.prog 18 #[.string (sealed ⟨(layT n l init).toArray⟩)] W fun e w' => ∃ ad c, e = .returned (.tuple #[.int .i64 (n : Int), .agg #[.slice ad l.length c, .int .u64 (init : Int)], .nilIface]) ∧ Sts w' (.slice ad l.length c) l ∧ Below W.heap.size W w' := by
  have hl := layT_le hn hi h
  have q := packGet_any hF (s := sealed ⟨(layT n l init).toArray⟩) (by rw [sealed_size]; show (layT n l init).toArray.size + 4 ≤ _; simp; omega)
  rw [readR_sealed, show bodyR (⟨(layT n l init).toArray⟩ : ByteArray).data.toList = .ok (n, l, init) from formed_back hn hi h] at q
  refine q.mono ?_
  rintro e w' ⟨⟨v, xs, rfl, h1, h2⟩, h3⟩
  have hs := h1.sts
  rw [h2] at hs
  obtain ⟨ad, c, rfl, hc⟩ := hs
  exact ⟨ad, c, rfl, ⟨ad, c, rfl, hc⟩, h3⟩
theorem sealed_inj {a b : ByteArray} (h : sealed a = sealed b) : a = b := by rw [← opened_sealed a, h, opened_sealed]
theorem formed_inj {n m i j : Nat} {F G : List DSt} (hn : n ≤ 100000) (hm : m ≤ 100000) (hi : i < 18446744073709551616) (hj : j < 18446744073709551616) (hF : Formed F) (hG : Formed G) :
    (sealed ⟨(layT n F i).toArray⟩ = sealed ⟨(layT m G j).toArray⟩) ↔ (n = m ∧ i = j ∧ F = G) := by
  constructor
  · intro h
    have h1 := sealed_inj h
    have h2 : layT n F i = layT m G j := by
      have := congrArg (fun x : ByteArray => x.data.toList) h1
      simpa using this
    have e1 := formed_back hn hi hF
    rw [h2, formed_back hm hj hG] at e1
    simp only [Except.ok.injEq, Prod.mk.injEq] at e1
    exact ⟨e1.1.symm, e1.2.2.symm, e1.2.1.symm⟩
  · rintro ⟨rfl, rfl, rfl⟩
    rfl
/-- Get, of any bytes that are not long: the values have their shapes. -/
theorem get_shape {y : ByteArray} (hy : y.size ≤ 1000) {W : World} (hF : Fours W) :
    Calls Tryd.prog 18 #[.string y] W fun e w' => Below W.heap.size W w' ∧ ((∃ n l init ad c, readR y = .ok (n, l, init) ∧ e = .returned (.tuple #[.int .i64 (n : Int), .agg #[.slice ad l.length c, .int .u64 (init : Int)], .nilIface]) ∧ Sts w' (.slice ad l.length c) l) ∨
      ∃ bf, e = .returned (.tuple #[.int .i64 0, .agg #[.slice none 0 0, .int .u64 0], .iface 88 (.pointer (some ⟨bf, 0, none⟩))])) := by
  have q := packGet_any hF (s := y) (by omega)
  cases hr : readR y with
  | error e =>
    rw [hr] at q
    refine q.mono ?_
    rintro e w' ⟨⟨bf, rfl, h1, h2⟩, h3⟩
    exact ⟨h3, .inr ⟨bf, rfl⟩⟩
  | ok r =>
    obtain ⟨n, l, init⟩ := r
    rw [hr] at q
    refine q.mono ?_
    rintro e w' ⟨⟨v, xs, rfl, h1, h2⟩, h3⟩
    have hs := h1.sts
    rw [h2] at hs
    obtain ⟨ad, c, rfl, hc⟩ := hs
    exact ⟨h3, .inl ⟨n, l, init, ad, c, rfl, rfl, ⟨ad, c, rfl, hc⟩⟩⟩
theorem get_ok' {y : ByteArray} (hy : y.size ≤ 1000) {n init : Nat} {l : List DSt} (hr : readR y = .ok (n, l, init)) {W : World} (hF : Fours W) :
    Calls Tryd.prog 18 #[.string y] W fun e w' => ∃ ad c, e = .returned (.tuple #[.int .i64 (n : Int), .agg #[.slice ad l.length c, .int .u64 (init : Int)], .nilIface]) ∧ Sts w' (.slice ad l.length c) l ∧ Below W.heap.size W w' := by
  have q := packGet_any hF (s := y) (by omega)
  rw [hr] at q
  refine q.mono ?_
  rintro e w' ⟨⟨v, xs, rfl, h1, h2⟩, h3⟩
  have hs := h1.sts
  rw [h2] at hs
  obtain ⟨ad, c, rfl, hc⟩ := hs
  exact ⟨ad, c, rfl, ⟨ad, c, rfl, hc⟩, h3⟩
theorem get_err {y : ByteArray} (hy : y.size ≤ 1000) {c p : Nat} (hr : readR y = .error (c, p)) {W : World} (hF : Fours W) :
    Calls Tryd.prog 18 #[.string y] W fun e w' => ∃ bf, e = .returned (.tuple #[.int .i64 0, .agg #[.slice none 0 0, .int .u64 0], .iface 88 (.pointer (some ⟨bf, 0, none⟩))]) ∧ FltB w' bf (c : Int) (p : Int) ∧ Below W.heap.size W w' := by
  have q := packGet_any hF (s := y) (by omega)
  rw [hr] at q
  refine q.mono ?_
  rintro e w' ⟨⟨bf, rfl, h1, h2⟩, h3⟩
  exact ⟨bf, rfl, h2, h3⟩
end Go.Proofs.YtjiilmiikejnhaaDoor
namespace Go.Proofs.YtjiilmiikejnhaaDoor
open Go.RowKit Go.Shelf Said

def backS : Nat → Tmp := fun j => match j with | 0 => 28 | 1 => 29 | 2 => 30 | 3 => 31 | 4 => 7 | _ => 8
theorem backS_inj : ∀ i, i < 6 → ∀ j, j < 6 → backS i = backS j → i = j := by decide
theorem backS_lt : ∀ i, i < 6 → backS i < 132 := by decide
theorem backS_3 : ∀ i, i < 6 → backS i ≠ 3 := by decide
theorem backS_4 : ∀ i, i < 6 → backS i ≠ 4 := by decide
theorem three_0 (a b c : Value) (w : World) : (Instr.index 56 (.agg #[a, b, c]) (.int .i64 0)).run Tryd.prog w = .ok a w := by kernel_rfl
theorem three_1 (a b c : Value) (w : World) : (Instr.index 56 (.agg #[a, b, c]) (.int .i64 1)).run Tryd.prog w = .ok b w := by kernel_rfl
theorem three_2 (a b c : Value) (w : World) : (Instr.index 56 (.agg #[a, b, c]) (.int .i64 2)).run Tryd.prog w = .ok c w := by kernel_rfl
theorem below_dr {w0 w : World} (h : Below w0.heap.size w0 w) : Below w0.heap.size w0 w.drew := h.trans ⟨rfl, rfl, rfl, Nat.le_refl _, fun _ _ => rfl⟩
theorem bnext {w0 a b : World} (h : Below w0.heap.size w0 a) (hb : Below a.heap.size a b) : Below w0.heap.size w0 b := h.trans (hb.mono h.size)

/-- What stands while the law goes on. -/
structure BI (w W : World) (bb b7 b8 : Nat) (v7 v8 : Value) (ia ib A B : Nat) (s : ByteArray) (F G : List DSt) : Prop where
  below : Below w.heap.size w W
  f7 : FstB W b7 v7 ia
  f8 : FstB W b8 v8 ib
  s7 : Sts W v7 F
  s8 : Sts W v8 G
  back : W.heap[bb]? = some (.cells #[.int .u32 (A : Int), .int .u32 (B : Int), .string s] 50 (0, 0))
theorem BI.next {w W W' : World} {bb b7 b8 : Nat} {v7 v8 : Value} {ia ib A B : Nat} {s : ByteArray} {F G : List DSt} (h : BI w W bb b7 b8 v7 v8 ia ib A B s F G) (hb : Below W.heap.size W W') : BI w W' bb b7 b8 v7 v8 ia ib A B s F G :=
  ⟨h.below.trans (hb.mono h.below.size), FstB.kp h.f7 (Kp.below (M := fun _ => False) hb) (fun h => h), FstB.kp h.f8 (Kp.below (M := fun _ => False) hb) (fun h => h), h.s7.below hb, h.s8.below hb, (hb.block _ (Array.getElem?_eq_some_iff.1 h.back).1).trans h.back⟩
theorem BI.c0 {w W : World} {bb b7 b8 : Nat} {v7 v8 : Value} {ia ib A B : Nat} {s : ByteArray} {F G : List DSt} (h : BI w W bb b7 b8 v7 v8 ia ib A B s F G) : W.cell? ⟨bb, 0, none⟩ = some (.int .u32 (A : Int)) ∧ W.cell? ⟨bb, 1, none⟩ = some (.int .u32 (B : Int)) ∧ W.cell? ⟨bb, 2, none⟩ = some (.string s) := by
  refine ⟨?_, ?_, ?_⟩
  · rw [cell_of_row W bb 0 _ _ _ h.back]; rfl
  · rw [cell_of_row W bb 1 _ _ _ h.back]; rfl
  · rw [cell_of_row W bb 2 _ _ _ h.back]; rfl

set_option maxHeartbeats 4000000 in
set_option maxRecDepth 100000 in
theorem back_walk {w : World} {va vb : Value} {la lb : List DSt} {ia ib A B : Nat} {s : ByteArray} (hF : Fours w) (hE : ErrT w) (h1 : StsC w va la) (h2 : StsC w vb lb) (ok1 : ∀ s ∈ la, s.ok) (ok2 : ∀ s ∈ lb, s.ok) (hia : ia < 18446744073709551616) (hib : ib < 18446744073709551616) (hA : A < 4294967296) (hB : B < 4294967296) (hs : s.size ≤ maxLen) :
    Calls Tryd.prog 5 #[.agg #[va, .int .u64 (ia : Int)], .agg #[vb, .int .u64 (ib : Int)], .agg #[.int .u32 (A : Int), .int .u32 (B : Int), .string s]] w fun e w' => e = .returned (.bool true) ∧ Below w.heap.size w w' := by
  have WK : Hid (∀ W, Below w.heap.size w W → Calls Tryd.prog 14 #[] W fun e w' => e = .returned (.bool true) ∧ Below W.heap.size W w') := Lib.hid fun W hb => works_any (hF.below hb) (hE.below hb)
  obtain ⟨F, hF1⟩ : ∃ F, F = formedT la := ⟨_, rfl⟩
  obtain ⟨G, hG1⟩ : ∃ G, G = formedT lb := ⟨_, rfl⟩
  have hFF : Formed F := by rw [hF1]; exact formedT_formed ok1
  have hGG : Formed G := by rw [hG1]; exact formedT_formed ok2
  obtain ⟨nF, hnF⟩ : ∃ n, F.length = n := ⟨_, rfl⟩
  obtain ⟨nG, hnG⟩ : ∃ n, G.length = n := ⟨_, rfl⟩
  have FA : Hid (∀ W, Below w.heap.size w W → Calls Tryd.prog 10 #[.agg #[va, .int .u64 (ia : Int)]] W fun e w' => ∃ ad c, e = .returned (.agg #[.slice ad nF c, .int .u64 (ia : Int)]) ∧ Sts w' (.slice ad nF c) F ∧ Below W.heap.size W w') := Lib.hid fun W hb => by rw [← hnF, hF1]; exact formed_any (h1.below hb)
  have FB : Hid (∀ W, Below w.heap.size w W → Calls Tryd.prog 10 #[.agg #[vb, .int .u64 (ib : Int)]] W fun e w' => ∃ ad c, e = .returned (.agg #[.slice ad nG c, .int .u64 (ib : Int)]) ∧ Sts w' (.slice ad nG c) G ∧ Below W.heap.size W w') := Lib.hid fun W hb => by rw [← hnG, hG1]; exact formed_any (h2.below hb)
  obtain ⟨n, hn⟩ : ∃ n, A % 100001 = n := ⟨_, rfl⟩
  obtain ⟨m, hm⟩ : ∃ m, B % 100001 = m := ⟨_, rfl⟩
  have hn1 : n ≤ 100000 := by omega
  have hm1 : m ≤ 100000 := by omega
  have hnA : (A : Int) % 100001 = (n : Int) := by omega
  have hmB : (B : Int) % 100001 = (m : Int) := by omega
  obtain ⟨S, hS⟩ : ∃ S, sealed ⟨(layT n F ia).toArray⟩ = S := ⟨_, rfl⟩
  obtain ⟨T, hT⟩ : ∃ T, sealed ⟨(layT m G ib).toArray⟩ = T := ⟨_, rfl⟩
  have P1 : Hid (∀ W v, Below w.heap.size w W → Sts W v F → Calls Tryd.prog 11 #[.int .i64 (n : Int), .agg #[v, .int .u64 (ia : Int)]] W fun e w' => e = .returned (.tuple #[.string S, .int .i64 0]) ∧ Below W.heap.size W w') := Lib.hid fun W v hb h => by rw [← hS]; exact formed_put hn1 hia hFF (hF.below hb) h
  have P2 : Hid (∀ W v, Below w.heap.size w W → Sts W v G → Calls Tryd.prog 11 #[.int .i64 (m : Int), .agg #[v, .int .u64 (ib : Int)]] W fun e w' => e = .returned (.tuple #[.string T, .int .i64 0]) ∧ Below W.heap.size W w') := Lib.hid fun W v hb h => by rw [← hT]; exact formed_put hm1 hib hGG (hF.below hb) h
  have G1 : Hid (∀ W, Below w.heap.size w W → Calls Tryd.prog 18 #[.string S] W fun e w' => ∃ ad c, e = .returned (.tuple #[.int .i64 (n : Int), .agg #[.slice ad nF c, .int .u64 (ia : Int)], .nilIface]) ∧ Sts w' (.slice ad nF c) F ∧ Below W.heap.size W w') := Lib.hid fun W hb => by rw [← hS, ← hnF]; exact formed_get hn1 hia hFF (hF.below hb)
  have len12 : ∀ {l : List DSt}, Formed l → l.length ≤ 100000 := fun h => by have := h.len; omega
  have arc6 : ∀ {l : List DSt}, Formed l → ∀ s ∈ l, s.arcs.length ≤ 100000 := fun h s hs => by have := h.arcs s hs; omega
  have S1 : Hid (∀ W v v', Sts W v F → Sts W v' F → Calls Tryd.prog 19 #[.agg #[v, .int .u64 (ia : Int)], .agg #[v', .int .u64 (ia : Int)]] W fun e w' => e = .returned (.bool true) ∧ Below W.heap.size W w') := Lib.hid fun W v v' h h' => by
    have := sameF_any (n1 := ia) (n2 := ia) h h' (len12 hFF) (len12 hFF) (arc6 hFF) (arc6 hFF)
    rwa [decide_eq_true (⟨rfl, rfl⟩ : ia = ia ∧ F = F)] at this
  obtain ⟨d, hd⟩ : ∃ d, decide (ia = ib ∧ F = G) = d := ⟨_, rfl⟩
  have S2 : Hid (∀ W v v', Sts W v F → Sts W v' G → Calls Tryd.prog 19 #[.agg #[v, .int .u64 (ia : Int)], .agg #[v', .int .u64 (ib : Int)]] W fun e w' => e = .returned (.bool d) ∧ Below W.heap.size W w') := Lib.hid fun W v v' h h' => by
    have := sameF_any (n1 := ia) (n2 := ib) h h' (len12 hFF) (len12 hGG) (arc6 hFF) (arc6 hGG)
    rwa [hd] at this
  obtain ⟨eN, heN⟩ : ∃ eN, ((n : Int) == (m : Int)) = eN := ⟨_, rfl⟩
  have heS : (S.toList == T.toList) = (eN && d) := by
    have h := formed_inj hn1 hm1 hia hib hFF hGG
    rw [hS, hT] at h
    rw [toList_beq, ← heN, ← hd, Bool.eq_iff_iff]
    simp only [decide_eq_true_eq, Bool.and_eq_true, beq_iff_eq, h]
    exact ⟨fun ⟨a, b⟩ => ⟨by omega, b⟩, fun ⟨a, b⟩ => ⟨by omega, b⟩⟩
  have HSZ : Hid (∀ W, Below w.heap.size w W → ∀ y : ByteArray, y.size ≤ 1000 → Calls Tryd.prog 20 #[.string y] W fun e w' => e = .returned (.string (sealed y)) ∧ Below W.heap.size W w') := Lib.hid fun W hb y hy => seal_any y W (hF.below hb) (by omega)
  have GO : Hid (∀ W, Below w.heap.size w W → ∀ (y : ByteArray) (n init : Nat) (l : List DSt), y.size ≤ 1000 → readR y = .ok (n, l, init) → Calls Tryd.prog 18 #[.string y] W fun e w' => ∃ ad c, e = .returned (.tuple #[.int .i64 (n : Int), .agg #[.slice ad l.length c, .int .u64 (init : Int)], .nilIface]) ∧ Sts w' (.slice ad l.length c) l ∧ Below W.heap.size W w') := Lib.hid fun W hb y n init l hy hr => get_ok' hy hr (hF.below hb)
  have GE : Hid (∀ W, Below w.heap.size w W → ∀ (y : ByteArray) (c p : Nat), y.size ≤ 1000 → readR y = .error (c, p) → Calls Tryd.prog 18 #[.string y] W fun e w' => ∃ bf, e = .returned (.tuple #[.int .i64 0, .agg #[.slice none 0 0, .int .u64 0], .iface 88 (.pointer (some ⟨bf, 0, none⟩))]) ∧ FltB w' bf (c : Int) (p : Int) ∧ Below W.heap.size W w') := Lib.hid fun W hb y c p hy hr => get_err hy hr (hF.below hb)
  have AP : Hid (∀ W, Below w.heap.size w W → ∀ (y : ByteArray) (n init : Nat) (l : List DSt) (v : Value), y.size ≤ 1000 → readR y = .ok (n, l, init) → Sts W v l → Calls Tryd.prog 11 #[.int .i64 (n : Int), .agg #[v, .int .u64 (init : Int)]] W fun e w' => e = .returned (.tuple #[.string y, .int .i64 0]) ∧ Below W.heap.size W w') := Lib.hid fun W hb y n init l v hy hr hv => again_put hy hr (hF.below hb) hv
  obtain ⟨w0, hw0⟩ : ∃ w0, w0 = ((w.alloc (.cells #[va, .int .u64 (ia : Int)] 25)).alloc (.cells #[vb, .int .u64 (ib : Int)] 25)).alloc (.cells #[.int .u32 (A : Int), .int .u32 (B : Int), .string s] 50) := ⟨_, rfl⟩
  have hb0 : Below w.heap.size w w0 := by rw [hw0]; exact ((below_alloc w _).alloc (by simp) _).alloc (by simp; try omega) _
  have f0 : FstB w0 w.heap.size va ia := by rw [hw0]; exact (alloc_old _ _ (by simp; try omega)).trans ((alloc_old _ _ (by simp)).trans (heap_alloc_new w _))
  have f1 : FstB w0 (w.heap.size + 1) vb ib := by rw [hw0]; exact (alloc_old _ _ (by simp; try omega)).trans (alloc_at _ _ (by simp))
  have f2 : w0.heap[w.heap.size + 1 + 1]? = some (.cells #[.int .u32 (A : Int), .int .u32 (B : Int), .string s] 50 (0, 0)) := by rw [hw0]; exact alloc_at _ _ (by simp)
  have HB0 := Lib.hid (And.intro hb0 (And.intro f0 (And.intro f1 f2)))
  clear h1 h2 hF hE hb0 f0 f1 f2 hF1 hG1 hnF hnG ok1 ok2 hFF hGG hn hm hS hT hd len12 arc6
  go_enter Tryd.func5, Tryd.ntmps5
  go_upto_region 1 with fail
  rw [← hw0]
  clear hw0
  go_wp2_with (go_at_call 14
               (with_reducible refine (WK.out _ HB0.out.1).mono ?_)
               go_loud (
               rintro e' w1 ⟨rfl, hb1⟩
               have HB1 := Lib.hid (And.intro (HB0.out.1.trans (hb1.mono HB0.out.1.size)) (And.intro (FstB.kp HB0.out.2.1 (Kp.below (M := fun _ => False) hb1) (fun h => h)) (And.intro (FstB.kp HB0.out.2.2.1 (Kp.below (M := fun _ => False) hb1) (fun h => h)) ((hb1.block _ (Array.getElem?_eq_some_iff.1 HB0.out.2.2.2).1).trans HB0.out.2.2.2))))
               clear hb1))
  refine Two.region_two ⟨w1, _, backS, .agg #[va, .int .u64 (ia : Int)], .agg #[vb, .int .u64 (ib : Int)], nF, nG, ia, ib, F, G⟩ 3 4 w.heap.size (w.heap.size + 1) va vb (by kernel_rfl) (by kernel_rfl) (by kernel_rfl) backS_inj backS_lt rfl rfl rfl rfl rfl rfl rfl rfl (by kernel_rfl) (by kernel_rfl) (by kernel_rfl) (by kernel_rfl) (by kernel_rfl) (by kernel_rfl) rfl rfl HB1.out.2.1 HB1.out.2.2.1 rfl rfl backS_3 backS_4 (fun c W => by go_simp) (fun W hb => FA.out W (HB1.out.1.trans (hb.mono HB1.out.1.size))) (fun W hb => FB.out W (HB1.out.1.trans (hb.mono HB1.out.1.size))) fun w2 b7 b8 ad1 c1 ad2 c2 hb2 hne g1 g2 g3 g4 => ?_
  simp only [backS, Act.put, List.setIfInBounds_toArray, List.set_cons_zero, List.set_cons_succ]
  have hI : BI w w2 (w.heap.size + 1 + 1) b7 b8 (.slice ad1 nF c1) (.slice ad2 nG c2) ia ib A B s F G := ⟨HB1.out.1.trans (hb2.mono HB1.out.1.size), g1, g2, g3, g4, (hb2.block _ (Array.getElem?_eq_some_iff.1 HB1.out.2.2.2).1).trans HB1.out.2.2.2⟩
  obtain ⟨k0, k1, k2⟩ := hI.c0
  have HI2 := Lib.hid hI
  clear hb2 g1 g2 g3 g4 hI
  go_wp2
  go_quiet (fail)
  have HI3 := Lib.hid (HI2.out.next (below_drewN (Below.refl _ _) nq))
  generalize w2.drewN nq = w3 at HI3 ⊢
  have y0 := HI3.out.f7.at0
  have y1 := HI3.out.f7.at1
  clear k0 k1 k2
  go_wp2_with (first
    | (go_at_call 11
       (with_reducible refine (P1.out _ _ HI3.out.below HI3.out.s7).mono ?_)
       go_loud (
       rintro e' w4 ⟨rfl, hb4⟩
       have HI4 := Lib.hid (HI3.out.next hb4)
       have y2 := HI4.out.f8.at0
       have y3 := HI4.out.f8.at1
       clear hb4 y0 y1))
    | (go_at_call 11
       (with_reducible refine (P2.out _ _ HI4.out.below HI4.out.s8).mono ?_)
       go_loud (
       rintro e' w5 ⟨rfl, hb5⟩
       have HI5 := Lib.hid (HI4.out.next hb5)
       clear hb5 y2 y3))
    | (go_at_call 18
       (with_reducible refine (G1.out _ HI5.out.below).mono ?_)
       go_loud (
       rintro e' w6 ⟨ad6, c6, rfl, hs6, hb6⟩
       have HI6 := Lib.hid (And.intro ((HI5.out.next hb6).next (below_alloc _ (.cells #[.slice ad6 nF c6, .int .u64 (ia : Int)] 25))) (hs6.next (o := .cells #[.slice ad6 nF c6, .int .u64 (ia : Int)] 25)))
       have y0 := HI6.out.1.f7.at0
       have y1 := HI6.out.1.f7.at1
       clear hb6 hs6)))
  obtain ⟨kp, hkp⟩ : ∃ kp, kp = min s.size 300 := ⟨_, rfl⟩
  have hkp1 : kp ≤ s.size := by omega
  have hkp2 : kp ≤ 300 := by omega
  have hmin : min (s.size : Int) 300 = (kp : Int) := by omega
  obtain ⟨X, hX⟩ : ∃ X, s.extract 0 kp = X := ⟨_, rfl⟩
  have hXs : X.size = kp := by rw [← hX, ByteArray.size_extract]; omega
  obtain ⟨Y, hY⟩ : ∃ Y : ByteArray, (⟨#[67, 83, 1]⟩ : ByteArray) ++ X = Y := ⟨_, rfl⟩
  have hYs : Y.size = kp + 3 := by rw [← hY, ByteArray.size_append, hXs]; show 3 + kp = _; omega
  have HX := Lib.hid (And.intro hXs hYs)
  have hXm : X.size ≤ 300 := by omega
  clear hkp hXs hYs
  have hcs : (eN = false ∧ (S.toList == T.toList) = false) ∨ (eN = true ∧ d = true ∧ (S.toList == T.toList) = true) ∨ (eN = true ∧ d = false ∧ (S.toList == T.toList) = false) := by
    rw [heS]
    cases eN <;> cases d <;> simp
  have HGO : Hid (∀ (W : World), BI w W (w.heap.size + 1 + 1) b7 b8 (.slice ad1 nF c1) (.slice ad2 nG c2) ia ib A B s F G → True) := Lib.hid fun _ _ => trivial
  clear heS HGO
  rcases hcs with ⟨rfl, hS⟩ | ⟨rfl, rfl, hS⟩ | ⟨rfl, rfl, hS⟩
  all_goals (
    go_wp2_with (first
      | (go_at_call 19
         (with_reducible refine (S1.out _ _ _ HI6.out.2 HI6.out.1.s7).mono ?_)
         go_loud (
         rintro e' w7 ⟨rfl, hb7⟩
         have HI7 := Lib.hid (HI6.out.1.next hb7)
         have HI8 := HI7
         have y2 := HI7.out.f8.at0
         have y3 := HI7.out.f8.at1
         have y4 := HI7.out.f7.at0
         have y5 := HI7.out.f7.at1
         obtain ⟨_, _, k2⟩ := HI7.out.c0
         clear hb7 y0 y1))
      | (go_at_call 19
         (with_reducible refine (S2.out _ _ _ HI7.out.s7 HI7.out.s8).mono ?_)
         go_loud (
         rintro e' w8 ⟨rfl, hb8⟩
         have HI8 := Lib.hid (HI7.out.next hb8)
         obtain ⟨_, _, k2⟩ := HI8.out.c0
         clear hb8 y2 y3 y4 y5))
      | (go_at_call 20
         (with_reducible refine (HSZ.out _ HI8.out.below X (by omega)).mono ?_)
         go_loud (
         rintro e' w9 ⟨rfl, hb9⟩
         have HI9 := Lib.hid (HI8.out.next hb9)
         clear hb9))
      | (go_at_call 20
         (with_reducible refine (HSZ.out _ HI9.out.below Y (by have := HX.out; omega)).mono ?_)
         go_loud (
         rintro e' w10 ⟨rfl, hb10⟩
         have HI10 := Lib.hid (HI9.out.next hb10).below
         clear hb10)))
    clear hS hmin hkp1 hX hY hXm
    have t0 := three_0
    have t1 := three_1
    have t2 := three_2
    go_loopw [107] (fun s107 W => ∃ k : Nat, k ≤ 3 ∧ s107 = .int .i64 k ∧ Hid (Below w.heap.size w W)) (fun s107 _ => 3 - (intOf s107).toNat)
    case atStart => exact ⟨0, by omega, rfl, HI10⟩
    case round =>
      obtain ⟨k, hk, rfl, HB⟩ := hrel
      rcases (show k = 0 ∨ k = 1 ∨ k = 2 ∨ k = 3 by omega) with rfl | rfl | rfl | rfl
      · rw [show ((0 : Nat) : Int) = 0 from rfl]
        obtain ⟨y, hyd⟩ : ∃ y, y = X := ⟨_, rfl⟩
        have hy : y.size ≤ 1000 := by rw [hyd]; have := HX.out; omega
        rw [← hyd]
        have HY := Lib.hid hy
        clear hy hyd
        cases hr : readR y with
        | error r =>
          obtain ⟨cc, pp⟩ := r
          have HR := Lib.hid hr
          clear hr
          go_wp2_with (go_at_call 18
                       (with_reducible refine (GE.out _ HB.out y cc pp HY.out HR.out).mono ?_)
                       go_loud (
                       rintro e' v1 ⟨bf, rfl, -, hb1⟩
                       have HV1 := Lib.hid (below_alloc' (o := .cells #[.slice none 0 0, .int .u64 0] 25) (HB.out.trans (hb1.mono HB.out.size)))
                       clear hb1))
          exact ⟨⟨1, by omega, by first | rfl | go_num, HV1⟩, by simp [intOf]⟩
        | ok r =>
          obtain ⟨nn, ll, ii⟩ := r
          have HR := Lib.hid hr
          clear hr
          go_wp2_with (first
            | (go_at_call 18
               (with_reducible refine (GO.out _ HB.out y nn ii ll HY.out HR.out).mono ?_)
               go_loud (
               rintro e' v1 ⟨ad7, c7, rfl, hs7, hb1⟩
               have HV1 := Lib.hid (And.intro (below_alloc' (o := .cells #[.slice ad7 ll.length c7, .int .u64 (ii : Int)] 25) (HB.out.trans (hb1.mono HB.out.size))) (hs7.next (o := .cells #[.slice ad7 ll.length c7, .int .u64 (ii : Int)] 25)))
               clear hb1 hs7))
            | (go_at_call 11
               (with_reducible refine (AP.out _ HV1.out.1 y nn ii ll _ HY.out HR.out HV1.out.2).mono ?_)
               go_loud (
               rintro e' v2 ⟨rfl, hb2⟩
               have HV2 := Lib.hid (HV1.out.1.trans (hb2.mono HV1.out.1.size))
               clear hb2)))
          exact ⟨⟨1, by omega, by first | rfl | go_num, HV2⟩, by simp [intOf]⟩
      · rw [show ((1 : Nat) : Int) = 1 from rfl]
        obtain ⟨y, hyd⟩ : ∃ y, y = sealed X := ⟨_, rfl⟩
        have hy : y.size ≤ 1000 := by rw [hyd]; rw [sealed_size]; have := HX.out; omega
        rw [← hyd]
        have HY := Lib.hid hy
        clear hy hyd
        cases hr : readR y with
        | error r =>
          obtain ⟨cc, pp⟩ := r
          have HR := Lib.hid hr
          clear hr
          go_wp2_with (go_at_call 18
                       (with_reducible refine (GE.out _ HB.out y cc pp HY.out HR.out).mono ?_)
                       go_loud (
                       rintro e' v1 ⟨bf, rfl, -, hb1⟩
                       have HV1 := Lib.hid (below_alloc' (o := .cells #[.slice none 0 0, .int .u64 0] 25) (HB.out.trans (hb1.mono HB.out.size)))
                       clear hb1))
          exact ⟨⟨2, by omega, by first | rfl | go_num, HV1⟩, by simp [intOf]⟩
        | ok r =>
          obtain ⟨nn, ll, ii⟩ := r
          have HR := Lib.hid hr
          clear hr
          go_wp2_with (first
            | (go_at_call 18
               (with_reducible refine (GO.out _ HB.out y nn ii ll HY.out HR.out).mono ?_)
               go_loud (
               rintro e' v1 ⟨ad7, c7, rfl, hs7, hb1⟩
               have HV1 := Lib.hid (And.intro (below_alloc' (o := .cells #[.slice ad7 ll.length c7, .int .u64 (ii : Int)] 25) (HB.out.trans (hb1.mono HB.out.size))) (hs7.next (o := .cells #[.slice ad7 ll.length c7, .int .u64 (ii : Int)] 25)))
               clear hb1 hs7))
            | (go_at_call 11
               (with_reducible refine (AP.out _ HV1.out.1 y nn ii ll _ HY.out HR.out HV1.out.2).mono ?_)
               go_loud (
               rintro e' v2 ⟨rfl, hb2⟩
               have HV2 := Lib.hid (HV1.out.1.trans (hb2.mono HV1.out.1.size))
               clear hb2)))
          exact ⟨⟨2, by omega, by first | rfl | go_num, HV2⟩, by simp [intOf]⟩
      · rw [show ((2 : Nat) : Int) = 2 from rfl]
        obtain ⟨y, hyd⟩ : ∃ y, y = sealed Y := ⟨_, rfl⟩
        have hy : y.size ≤ 1000 := by rw [hyd]; rw [sealed_size]; have := HX.out; omega
        rw [← hyd]
        have HY := Lib.hid hy
        clear hy hyd
        cases hr : readR y with
        | error r =>
          obtain ⟨cc, pp⟩ := r
          have HR := Lib.hid hr
          clear hr
          go_wp2_with (go_at_call 18
                       (with_reducible refine (GE.out _ HB.out y cc pp HY.out HR.out).mono ?_)
                       go_loud (
                       rintro e' v1 ⟨bf, rfl, -, hb1⟩
                       have HV1 := Lib.hid (below_alloc' (o := .cells #[.slice none 0 0, .int .u64 0] 25) (HB.out.trans (hb1.mono HB.out.size)))
                       clear hb1))
          exact ⟨⟨3, by omega, by first | rfl | go_num, HV1⟩, by simp [intOf]⟩
        | ok r =>
          obtain ⟨nn, ll, ii⟩ := r
          have HR := Lib.hid hr
          clear hr
          go_wp2_with (first
            | (go_at_call 18
               (with_reducible refine (GO.out _ HB.out y nn ii ll HY.out HR.out).mono ?_)
               go_loud (
               rintro e' v1 ⟨ad7, c7, rfl, hs7, hb1⟩
               have HV1 := Lib.hid (And.intro (below_alloc' (o := .cells #[.slice ad7 ll.length c7, .int .u64 (ii : Int)] 25) (HB.out.trans (hb1.mono HB.out.size))) (hs7.next (o := .cells #[.slice ad7 ll.length c7, .int .u64 (ii : Int)] 25)))
               clear hb1 hs7))
            | (go_at_call 11
               (with_reducible refine (AP.out _ HV1.out.1 y nn ii ll _ HY.out HR.out HV1.out.2).mono ?_)
               go_loud (
               rintro e' v2 ⟨rfl, hb2⟩
               have HV2 := Lib.hid (HV1.out.1.trans (hb2.mono HV1.out.1.size))
               clear hb2)))
          exact ⟨⟨3, by omega, by first | rfl | go_num, HV2⟩, by simp [intOf]⟩
      · go_wp2
        go_ret
        exact ⟨rfl, HB.out⟩)
end Go.Proofs.YtjiilmiikejnhaaDoor

/-
  What was sealed, read. What was sealed, read: behind the number of states. Whatever bytes: read.
-/
import Derived.Test.YtjiilmiikejnhaaDoorP13
import Derived.Test.YtjiilmiikejnhaaDoorP19
set_option linter.unusedVariables false
set_option linter.unusedSimpArgs false
namespace Go.Proofs.YtjiilmiikejnhaaDoor
open Go.RowKit Go.Shelf Said

/-- What is read of bytes. -/
def readR (s : ByteArray) : Except (Nat × Nat) (Nat × List DSt × Nat) := if isSeal s = true then bodyR (opened s).data.toList else .error (16, 0)
def FaultB (w : World) (c at_ : Nat) (e : Ending) (w' : World) : Prop :=
  ∃ bf, e = .panicked [{ v := .iface 88 (.pointer (some ⟨bf, 0, none⟩)), recovered := false }] ∧ w.heap.size ≤ bf ∧ w'.heap[bf]? = some (.cells #[.int .i64 (c : Int), .int .i64 (at_ : Int)] 60 (0, 0)) ∧ Below w.heap.size w w'
theorem FaultB.of {w w1 w' : World} {pa c a : Nat} {e : Ending} (hk : Kp (fun g => w.heap.size ≤ g) w w1) (hp : w.heap.size ≤ pa) (h : Faulted w1 pa c a e w') : FaultB w c a e w' := by
  obtain ⟨bf, h1, h2, h3, h4⟩ := h
  exact ⟨bf, h1, Nat.le_trans hk.size h2, h3, (hk.trans h4 (fun g e => .inl (by rw [e]; exact hp))).to (Nat.le_refl _) fun g e => e⟩
def Read (w : World) (r : Except (Nat × Nat) (Nat × List DSt × Nat)) (e : Ending) (w' : World) : Prop :=
  match r with
  | .ok (n, l, i) => (∃ v xs, e = .returned (.tuple #[.int .i64 (n : Int), .agg #[v, .int .u64 (i : Int)]]) ∧ RowsI w' w.heap.size v xs ∧ xs.map (·.2) = l) ∧ Below w.heap.size w w'
  | .error (c, p) => FaultB w c p e w'
def bodyE (s : List UInt8) (n : Nat) : Rd (List DSt) → Except (Nat × Nat) (Nat × List DSt × Nat)
  | .error e => .error e
  | .ok (l, a3) => match numR s a3 0 18446744073709551615 with
    | .error e => .error e
    | .ok (i, a4) => if a4 = s.length then .ok (n, l, i) else .error (4, a4)

theorem over_ex {w : World} (s : ByteArray) :
    Calls Tryd.prog 59 #[.string s] w fun e w' => ∃ pa pm ps, e = .returned (.agg (rdrC pa pm ps)) ∧ Rdr w' pa pm ps s 0 ∧ Below w.heap.size w w' ∧ w.heap.size ≤ pa ∧ w.heap.size ≤ pm ∧ w.heap.size ≤ ps :=
  (over_any s).mono fun e w' ⟨h1, h2, h3⟩ => ⟨_, _, _, h1, h2, h3, by omega, by omega, by omega⟩

/-- All blocks of a reading that goes on. -/
structure Stg (w W : World) (pr pa pm ps : Nat) (O : ByteArray) (a : Nat) (v : Value) : Prop where
  f : FstB W w.heap.size v 0
  b : RB W pr pa pm ps
  r : Rdr W pa pm ps O a
  k : Kp (fun g => w.heap.size ≤ g) w W
  ne : w.heap.size ≠ pa ∧ w.heap.size ≠ pm ∧ w.heap.size ≠ ps ∧ w.heap.size ≠ pr ∧ pr ≠ pa ∧ w.heap.size ≤ pa
theorem Stg.next {w W W' : World} {pr pa pm ps a a' : Nat} {O : ByteArray} {v : Value} (h : Stg w W pr pa pm ps O a v) (hr : Rdr W' pa pm ps O a') (hk : Kp (fun g => g = pa) W W') : Stg w W' pr pa pm ps O a' v :=
  ⟨h.f.kp hk h.ne.1, (hk.block _ (Array.getElem?_eq_some_iff.1 h.b).1 h.ne.2.2.2.2.1).trans h.b, hr, h.k.trans hk (fun g e => .inl (by rw [e]; exact h.ne.2.2.2.2.2)), h.ne⟩
theorem Stg.start {w w0 w1 w2 : World} {pa pm ps : Nat} {O : ByteArray} {v : Value} (hb0 : Below w.heap.size w w0) (hf : FstB w0 w.heap.size v 0) (hb1 : Below w0.heap.size w0 w1) (hb2 : Below w1.heap.size w1 w2) (hr : Rdr w2 pa pm ps O 0) (h1 : w1.heap.size ≤ pa) (h2 : w1.heap.size ≤ pm) (h3 : w1.heap.size ≤ ps) :
    Stg w (w2.alloc (.cells (rdrC pa pm ps) 115)) w2.heap.size pa pm ps O 0 v := by
  have hf1 : FstB w1 w.heap.size v 0 := (hb1.block _ hf.lt).trans hf
  have hf2 : FstB w2 w.heap.size v 0 := (hb2.block _ hf1.lt).trans hf1
  have := hf.lt
  have := hf1.lt
  have := hf2.lt
  have l1 := (Array.getElem?_eq_some_iff.1 hr.pos).1
  exact ⟨((below_alloc w2 _).block _ hf2.lt).trans hf2, heap_alloc_new w2 _, hr.below (below_alloc w2 _), (Kp.below (hb0.trans ((hb1.trans (hb2.mono hb1.size)).mono (by omega)))).trans (Kp.below (M := fun g => w.heap.size ≤ g) (below_alloc w2 _)) (fun g e => .inl e), by omega⟩
theorem Stg.below {w W W' : World} {pr pa pm ps a : Nat} {O : ByteArray} {v : Value} (h : Stg w W pr pa pm ps O a v) (hb : Below W.heap.size W W') : Stg w W' pr pa pm ps O a v := h.next (h.r.below hb) (Kp.below hb)

theorem numR_le {s : List UInt8} {a least most n k : Nat} (h : numR s a least most = .ok (n, k)) : least ≤ n ∧ n ≤ most := by
  unfold numR at h
  dsimp only at h
  split at h
  · cases h
  · split at h
    · cases h
    · injection h with h
      injection h with h1 h2
      omega
theorem magR_none {s : List UInt8} (h : magR s 4 0 = none) : 3 ≤ s.length := by
  refine Nat.le_of_not_lt fun hn => ?_
  by_cases h0 : 0 < s.length
  · by_cases e0 : s[0] = magicL.getD 0 0
    · rw [show 4 = 4 - 0 by rfl, magR_step (by omega) h0 e0] at h
      by_cases h1 : 1 < s.length
      · by_cases e1 : s[1] = magicL.getD 1 0
        · rw [magR_step (by omega) h1 e1, magR_short (by omega) (by omega)] at h; cases h
        · rw [magR_kind (by omega) h1 e1] at h; cases h
      · rw [magR_short (by omega) h1] at h; cases h
    · rw [show 4 = 4 - 0 by rfl, magR_kind (by omega) h0 e0] at h; cases h
  · rw [show 4 = 4 - 0 by rfl, magR_short (by omega) h0] at h; cases h

set_option maxHeartbeats 4000000 in
set_option maxRecDepth 100000 in
theorem read_e0 {w : World} {s O : ByteArray} (hF : Fours w) (hs : s.size ≤ 1000000000) (hS : isSeal s = false) (hO : opened s = O) (hOs : O.size ≤ 1000000000) :
    Calls Tryd.prog 39 #[.string s] w (Read w (.error (16, 0))) := by
  obtain ⟨w0, hw0⟩ : ∃ w0, w0 = w.alloc (.cells #[.slice none 0 0, .int .u64 0] 25) := ⟨_, rfl⟩
  have hb0 : Below w.heap.size w w0 := by rw [hw0]; exact below_alloc w _
  have hsb : FstB w0 w.heap.size (.slice none 0 0) 0 := by rw [hw0]; exact heap_alloc_new w _
  have QO0 : Calls Tryd.prog 58 #[.string s] w0 fun e w' => e = .returned (.tuple #[.string (opened s), .bool (isSeal s)]) ∧ Below w0.heap.size w0 w' := open_any s w0 (hF.below hb0) (by omega)
  rw [hS, hO] at QO0
  have HSB := Lib.hid hsb
  have HB0 := Lib.hid hb0
  have QO := Lib.hid QO0
  clear hS hO hb0 hsb hF QO0
  go_enter Tryd.func39, Tryd.ntmps39
  go_upto_region 1 with fail
  rw [← hw0]
  clear hw0
  go_upto_region 3 with (first
               | (go_at_call 58
                  (with_reducible refine QO.out.mono ?_)
                  rintro e' w1 ⟨rfl, hb1⟩)
               | (go_at_call 59
                  (refine (over_ex O).mono ?_)
                  rintro e' w2 ⟨pa, pm, ps, rfl, hr2, hb2, g1, g2, g3⟩
                  simp only [rdrC]))
  have h3 := Stg.start HB0.out HSB.out hb1 hb2 hr2 g1 g2 g3
  have hbk : ∃ w3, w3 = w2.alloc (.cells (rdrC pa pm ps) 115) := ⟨_, rfl⟩
  obtain ⟨w3, hw3⟩ := hbk
  rw [← hw3] at h3
  simp only [rdrC] at hw3
  rw [← hw3]
  clear hw3 hb1 hb2 hr2 g1 g2 g3
  have r0 := h3.b.at0
  have r1 := h3.b.at1
  have H3 := Lib.hid h3
  clear h3
  have qm : Calls Tryd.prog 79 #[.bool false, .int .i64 16, .pointer (some ⟨pa, 0, none⟩)] w3 (Faulted w3 pa 16 0) := must_no H3.out.r 16
  have QM := Lib.hid qm
  clear qm
  go_wp2_with (go_at_call 79; (with_reducible refine QM.out.mono ?_); rintro e' w4 h; have HF := Lib.hid (FaultB.of H3.out.k H3.out.ne.2.2.2.2.2 h); obtain ⟨bf, rfl, h1, h2, h3⟩ := h)
  exact ⟨rfl, HF.out⟩

set_option maxHeartbeats 4000000 in
set_option maxRecDepth 100000 in
theorem read_e1 {w : World} {s O : ByteArray} (hF : Fours w) (hs : s.size ≤ 1000000000) (hS : isSeal s = true) (hO : opened s = O) (hOs : O.size ≤ 1000000000) {c1 p1 : Nat} (hB : magR O.data.toList 4 0 = some (c1, p1)) :
    Calls Tryd.prog 39 #[.string s] w (Read w (.error (c1, p1))) := by
  obtain ⟨w0, hw0⟩ : ∃ w0, w0 = w.alloc (.cells #[.slice none 0 0, .int .u64 0] 25) := ⟨_, rfl⟩
  have hb0 : Below w.heap.size w w0 := by rw [hw0]; exact below_alloc w _
  have hsb : FstB w0 w.heap.size (.slice none 0 0) 0 := by rw [hw0]; exact heap_alloc_new w _
  have QO0 : Calls Tryd.prog 58 #[.string s] w0 fun e w' => e = .returned (.tuple #[.string (opened s), .bool (isSeal s)]) ∧ Below w0.heap.size w0 w' := open_any s w0 (hF.below hb0) (by omega)
  rw [hS, hO] at QO0
  have HSB := Lib.hid hsb
  have HB0 := Lib.hid hb0
  have QO := Lib.hid QO0
  clear hS hO hb0 hsb hF QO0
  go_enter Tryd.func39, Tryd.ntmps39
  go_upto_region 1 with fail
  rw [← hw0]
  clear hw0
  go_upto_region 3 with (first
               | (go_at_call 58
                  (with_reducible refine QO.out.mono ?_)
                  rintro e' w1 ⟨rfl, hb1⟩)
               | (go_at_call 59
                  (refine (over_ex O).mono ?_)
                  rintro e' w2 ⟨pa, pm, ps, rfl, hr2, hb2, g1, g2, g3⟩
                  simp only [rdrC]))
  have h3 := Stg.start HB0.out HSB.out hb1 hb2 hr2 g1 g2 g3
  have hbk : ∃ w3, w3 = w2.alloc (.cells (rdrC pa pm ps) 115) := ⟨_, rfl⟩
  obtain ⟨w3, hw3⟩ := hbk
  rw [← hw3] at h3
  simp only [rdrC] at hw3
  rw [← hw3]
  clear hw3 hb1 hb2 hr2 g1 g2 g3
  have r0 := h3.b.at0
  have r1 := h3.b.at1
  have H3 := Lib.hid h3
  clear h3
  have QM := Lib.hid (must_ok (w := w3) (pa := pa) 16)
  have qb := begin_any H3.out.r hOs
  rw [hB] at qb
  have QB := Lib.hid qb
  clear qb
  go_wp2_with (first
               | (go_at_call 79; (with_reducible refine QM.out.mono ?_); rintro e' w4 ⟨rfl, rfl⟩)
               | (go_at_call 80; (with_reducible refine QB.out.mono ?_); rintro e' w4 h; have HF := Lib.hid (FaultB.of H3.out.k H3.out.ne.2.2.2.2.2 h); obtain ⟨bf, rfl, h1, h2, h3⟩ := h))
  exact ⟨rfl, HF.out⟩

set_option maxHeartbeats 4000000 in
set_option maxRecDepth 100000 in
theorem read_e2 {w : World} {s O : ByteArray} (hF : Fours w) (hs : s.size ≤ 1000000000) (hS : isSeal s = true) (hO : opened s = O) (hOs : O.size ≤ 1000000000) (hB : magR O.data.toList 4 0 = none) {c1 p1 : Nat} (hN : numR O.data.toList 3 0 100000 = .error (c1, p1)) :
    Calls Tryd.prog 39 #[.string s] w (Read w (.error (c1, p1))) := by
  obtain ⟨w0, hw0⟩ : ∃ w0, w0 = w.alloc (.cells #[.slice none 0 0, .int .u64 0] 25) := ⟨_, rfl⟩
  have hb0 : Below w.heap.size w w0 := by rw [hw0]; exact below_alloc w _
  have hsb : FstB w0 w.heap.size (.slice none 0 0) 0 := by rw [hw0]; exact heap_alloc_new w _
  have QO0 : Calls Tryd.prog 58 #[.string s] w0 fun e w' => e = .returned (.tuple #[.string (opened s), .bool (isSeal s)]) ∧ Below w0.heap.size w0 w' := open_any s w0 (hF.below hb0) (by omega)
  rw [hS, hO] at QO0
  have HSB := Lib.hid hsb
  have HB0 := Lib.hid hb0
  have QO := Lib.hid QO0
  clear hS hO hb0 hsb hF QO0
  go_enter Tryd.func39, Tryd.ntmps39
  go_upto_region 1 with fail
  rw [← hw0]
  clear hw0
  go_upto_region 3 with (first
               | (go_at_call 58
                  (with_reducible refine QO.out.mono ?_)
                  rintro e' w1 ⟨rfl, hb1⟩)
               | (go_at_call 59
                  (refine (over_ex O).mono ?_)
                  rintro e' w2 ⟨pa, pm, ps, rfl, hr2, hb2, g1, g2, g3⟩
                  simp only [rdrC]))
  have h3 := Stg.start HB0.out HSB.out hb1 hb2 hr2 g1 g2 g3
  have hbk : ∃ w3, w3 = w2.alloc (.cells (rdrC pa pm ps) 115) := ⟨_, rfl⟩
  obtain ⟨w3, hw3⟩ := hbk
  rw [← hw3] at h3
  simp only [rdrC] at hw3
  rw [← hw3]
  clear hw3 hb1 hb2 hr2 g1 g2 g3
  have r0 := h3.b.at0
  have r1 := h3.b.at1
  have H3 := Lib.hid h3
  clear h3
  have QM := Lib.hid (must_ok (w := w3) (pa := pa) 16)
  have qb := begin_any H3.out.r hOs
  rw [hB] at qb
  have QB := Lib.hid qb
  clear qb
  go_wp2_with (first
               | (go_at_call 79; (with_reducible refine QM.out.mono ?_); rintro e' w4 ⟨rfl, rfl⟩)
               | (go_at_call 80
                  (with_reducible refine QB.out.mono ?_)
                  go_loud (
                  rintro e' w4 ⟨rfl, hr4, hk4⟩
                  have h4 := H3.out.next hr4 hk4
                  have r3 := h4.b.at3
                  have qn : Calls Tryd.prog 82 #[.int .u64 0, .int .u64 100000, .pointer (some ⟨ps, 0, none⟩), .pointer (some ⟨pa, 0, none⟩), .pointer (some ⟨pm, 0, none⟩)] w4 (Had w4 pa pm ps O (fun n : Nat => .int .u64 (n : Int)) (numR O.data.toList 3 0 100000)) := number_any (least := 0) (most := 100000) h4.r hOs (by have := magR_none hB; rw [ba_size] at this; omega) (by omega) (by omega)
                  rw [hN] at qn
                  have QN := Lib.hid qn
                  have H4 := Lib.hid h4
                  clear r0 r1 hr4 hk4 h4 qn))
               | (go_at_call 82; (with_reducible refine QN.out.mono ?_); rintro e' w5 h; have HF := Lib.hid (FaultB.of H4.out.k H4.out.ne.2.2.2.2.2 h); obtain ⟨bf, rfl, h1, h2, h3⟩ := h))
  exact ⟨rfl, HF.out⟩

set_option maxHeartbeats 4000000 in
set_option maxRecDepth 100000 in
theorem read_e3 {w : World} {s O : ByteArray} (hF : Fours w) (hs : s.size ≤ 1000000000) (hS : isSeal s = true) (hO : opened s = O) (hOs : O.size ≤ 1000000000) (hB : magR O.data.toList 4 0 = none) {n a1 : Nat} (hN : numR O.data.toList 3 0 100000 = .ok (n, a1)) {c1 p1 : Nat} (hM : numR O.data.toList a1 1 18446744073709551615 = .error (c1, p1)) :
    Calls Tryd.prog 39 #[.string s] w (Read w (.error (c1, p1))) := by
  obtain ⟨w0, hw0⟩ : ∃ w0, w0 = w.alloc (.cells #[.slice none 0 0, .int .u64 0] 25) := ⟨_, rfl⟩
  have hb0 : Below w.heap.size w w0 := by rw [hw0]; exact below_alloc w _
  have hsb : FstB w0 w.heap.size (.slice none 0 0) 0 := by rw [hw0]; exact heap_alloc_new w _
  have QO0 : Calls Tryd.prog 58 #[.string s] w0 fun e w' => e = .returned (.tuple #[.string (opened s), .bool (isSeal s)]) ∧ Below w0.heap.size w0 w' := open_any s w0 (hF.below hb0) (by omega)
  rw [hS, hO] at QO0
  have HSB := Lib.hid hsb
  have HB0 := Lib.hid hb0
  have QO := Lib.hid QO0
  clear hS hO hb0 hsb hF QO0
  go_enter Tryd.func39, Tryd.ntmps39
  go_upto_region 1 with fail
  rw [← hw0]
  clear hw0
  go_upto_region 3 with (first
               | (go_at_call 58
                  (with_reducible refine QO.out.mono ?_)
                  rintro e' w1 ⟨rfl, hb1⟩)
               | (go_at_call 59
                  (refine (over_ex O).mono ?_)
                  rintro e' w2 ⟨pa, pm, ps, rfl, hr2, hb2, g1, g2, g3⟩
                  simp only [rdrC]))
  have h3 := Stg.start HB0.out HSB.out hb1 hb2 hr2 g1 g2 g3
  have hbk : ∃ w3, w3 = w2.alloc (.cells (rdrC pa pm ps) 115) := ⟨_, rfl⟩
  obtain ⟨w3, hw3⟩ := hbk
  rw [← hw3] at h3
  simp only [rdrC] at hw3
  rw [← hw3]
  clear hw3 hb1 hb2 hr2 g1 g2 g3
  have r0 := h3.b.at0
  have r1 := h3.b.at1
  have H3 := Lib.hid h3
  clear h3
  have QM := Lib.hid (must_ok (w := w3) (pa := pa) 16)
  have qb := begin_any H3.out.r hOs
  rw [hB] at qb
  have QB := Lib.hid qb
  clear qb
  have hl1 := numR_lt hN
  rw [ba_size] at hl1
  have hn1 := (numR_le hN).2
  have hwr : IntKind.i64.wrap (n : Int) = (n : Int) := IntWalk.i64_in _ (by omega)
  go_wp2_with (first
               | (go_at_call 79; (with_reducible refine QM.out.mono ?_); rintro e' w4 ⟨rfl, rfl⟩)
               | (go_at_call 80
                  (with_reducible refine QB.out.mono ?_)
                  go_loud (
                  rintro e' w4 ⟨rfl, hr4, hk4⟩
                  have h4 := H3.out.next hr4 hk4
                  have r3 := h4.b.at3
                  have qn : Calls Tryd.prog 82 #[.int .u64 0, .int .u64 100000, .pointer (some ⟨ps, 0, none⟩), .pointer (some ⟨pa, 0, none⟩), .pointer (some ⟨pm, 0, none⟩)] w4 (Had w4 pa pm ps O (fun n : Nat => .int .u64 (n : Int)) (numR O.data.toList 3 0 100000)) := number_any (least := 0) (most := 100000) h4.r hOs (by have := magR_none hB; rw [ba_size] at this; omega) (by omega) (by omega)
                  rw [hN] at qn
                  have QN := Lib.hid qn
                  have H4 := Lib.hid h4
                  clear r0 r1 hr4 hk4 h4 qn))
               | (go_at_call 82
                  (with_reducible refine QN.out.mono ?_)
                  go_loud (
                  rintro e' w5 ⟨rfl, hr5, hk5⟩
                  have h5 := H4.out.next hr5 hk5
                  have r4 := h5.b.at3
                  have qm : Calls Tryd.prog 82 #[.int .u64 1, .int .u64 18446744073709551615, .pointer (some ⟨ps, 0, none⟩), .pointer (some ⟨pa, 0, none⟩), .pointer (some ⟨pm, 0, none⟩)] w5 (Had w5 pa pm ps O (fun n : Nat => .int .u64 (n : Int)) (numR O.data.toList a1 1 18446744073709551615)) := number_any (least := 1) (most := 18446744073709551615) h5.r hOs (by omega) (by omega) (by omega)
                  rw [hM] at qm
                  have QM2 := Lib.hid qm
                  have H5 := Lib.hid h5
                  clear r3 hr5 hk5 h5 qm))
               | (go_at_call 82; (with_reducible refine QM2.out.mono ?_); rintro e' w6 h; have HF := Lib.hid (FaultB.of H5.out.k H5.out.ne.2.2.2.2.2 h); obtain ⟨bf, rfl, h1, h2, h3⟩ := h))
  exact ⟨rfl, HF.out⟩

end Go.Proofs.YtjiilmiikejnhaaDoor
namespace Go.Proofs.YtjiilmiikejnhaaDoor
open Go.RowKit Go.Shelf Said

structure RInv (w wr : World) (pr pa pm ps : Nat) (O : ByteArray) (m a2 k ak F : Nat) (xs : List (Value × DSt)) (v : Value) : Prop where
  g : Stg w wr pr pa pm ps O ak v
  rows : RowsI wr w.heap.size v xs
  len : xs.length = k
  le : k ≤ ak
  hi : ak ≤ O.size
  fu : O.size + 2 ≤ F + ak
  res : stsR O.data.toList m (O.size + 2) 0 a2 [] = stsR O.data.toList m F k ak (xs.map (·.2))
theorem rows_nil (w : World) (base : Nat) : RowsI w base (.slice none 0 0) [] := ⟨⟨rfl, .inl ⟨rfl, rfl⟩⟩, fun x hx => by cases hx⟩
theorem bodyE_num {s : List UInt8} {n a : Nat} {l : List DSt} {e : Nat × Nat} (h : numR s a 0 18446744073709551615 = .error e) : bodyE s n (.ok (l, a)) = .error e := by
  unfold bodyE
  dsimp only
  rw [h]
theorem bodyE_ok {s : List UInt8} {n a i : Nat} {l : List DSt} (h : numR s a 0 18446744073709551615 = .ok (i, s.length)) : bodyE s n (.ok (l, a)) = .ok (n, l, i) := by
  unfold bodyE
  dsimp only
  rw [h]
  dsimp only
  rw [if_pos rfl]
theorem bodyE_long {s : List UInt8} {n a i a4 : Nat} {l : List DSt} (h : numR s a 0 18446744073709551615 = .ok (i, a4)) (hE : ¬ a4 = s.length) : bodyE s n (.ok (l, a)) = .error (4, a4) := by
  unfold bodyE
  dsimp only
  rw [h]
  dsimp only
  rw [if_neg hE]
theorem end_yes {n : Nat} {A B : Prop} (h : if n = n then A else B) : A := by rw [if_pos rfl] at h; exact h
theorem end_not {n m : Nat} {A B : Prop} (h : if n = m then A else B) (hn : ¬ n = m) : B := by rw [if_neg hn] at h; exact h
theorem stsR_end {s : List UInt8} {m F k a : Nat} {acc : List DSt} (hk : m ≤ k) (hF : 0 < F) : stsR s m F k a acc = .ok (acc, a) := by
  obtain ⟨F', rfl⟩ : ∃ F', F = F' + 1 := ⟨F - 1, by omega⟩
  unfold stsR
  rw [if_pos hk]
theorem stsR_err {s : List UInt8} {m F k a : Nat} {acc : List DSt} {e : Nat × Nat} (hk : k < m) (hF : 0 < F) (h : stR s k a = .error e) : stsR s m F k a acc = .error e := by
  obtain ⟨F', rfl⟩ : ∃ F', F = F' + 1 := ⟨F - 1, by omega⟩
  unfold stsR
  rw [if_neg (by omega), h]
theorem stsR_step {s : List UInt8} {m F k a a' : Nat} {acc : List DSt} {x : DSt} (hk : k < m) (h : stR s k a = .ok (x, a')) : stsR s m (F + 1) k a acc = stsR s m F (k + 1) a' (acc ++ [x]) := by
  show (if m ≤ k then _ else match stR s k a with | .error e => _ | .ok (x, a1) => _) = _
  rw [if_neg (by omega), h]

set_option maxHeartbeats 4000000 in
set_option maxRecDepth 100000 in
theorem read_main {w : World} {s O : ByteArray} (hF : Fours w) (hs : s.size ≤ 1000000000) (hS : isSeal s = true) (hO : opened s = O) (hOs : O.size ≤ 1000000000) (hB : magR O.data.toList 4 0 = none) {n a1 : Nat} (hN : numR O.data.toList 3 0 100000 = .ok (n, a1)) {m a2 : Nat} (hM : numR O.data.toList a1 1 18446744073709551615 = .ok (m, a2)) :
    Calls Tryd.prog 39 #[.string s] w (Read w (bodyE O.data.toList n (stsR O.data.toList m (O.size + 2) 0 a2 []))) := by
  obtain ⟨w0, hw0⟩ : ∃ w0, w0 = w.alloc (.cells #[.slice none 0 0, .int .u64 0] 25) := ⟨_, rfl⟩
  have hb0 : Below w.heap.size w w0 := by rw [hw0]; exact below_alloc w _
  have hsb : FstB w0 w.heap.size (.slice none 0 0) 0 := by rw [hw0]; exact heap_alloc_new w _
  have QO0 : Calls Tryd.prog 58 #[.string s] w0 fun e w' => e = .returned (.tuple #[.string (opened s), .bool (isSeal s)]) ∧ Below w0.heap.size w0 w' := open_any s w0 (hF.below hb0) (by omega)
  rw [hS, hO] at QO0
  have HSB := Lib.hid hsb
  have HB0 := Lib.hid hb0
  have QO := Lib.hid QO0
  clear hS hO hb0 hsb hF QO0
  go_enter Tryd.func39, Tryd.ntmps39
  go_upto_region 1 with fail
  rw [← hw0]
  clear hw0
  go_upto_region 3 with (first
               | (go_at_call 58
                  (with_reducible refine QO.out.mono ?_)
                  rintro e' w1 ⟨rfl, hb1⟩)
               | (go_at_call 59
                  (refine (over_ex O).mono ?_)
                  rintro e' w2 ⟨pa, pm, ps, rfl, hr2, hb2, g1, g2, g3⟩
                  simp only [rdrC]))
  have h3 := Stg.start HB0.out HSB.out hb1 hb2 hr2 g1 g2 g3
  have hbk : ∃ w3, w3 = w2.alloc (.cells (rdrC pa pm ps) 115) := ⟨_, rfl⟩
  obtain ⟨w3, hw3⟩ := hbk
  rw [← hw3] at h3
  simp only [rdrC] at hw3
  rw [← hw3]
  clear hw3 hb1 hb2 hr2 g1 g2 g3
  have r0 := h3.b.at0
  have r1 := h3.b.at1
  have H3 := Lib.hid h3
  clear h3
  have QM := Lib.hid (must_ok (w := w3) (pa := pa) 16)
  have qb := begin_any H3.out.r hOs
  rw [hB] at qb
  have QB := Lib.hid qb
  clear qb
  have hl1 := numR_lt hN
  rw [ba_size] at hl1
  have hn1 := (numR_le hN).2
  have hwr : IntKind.i64.wrap (n : Int) = (n : Int) := IntWalk.i64_in _ (by omega)
  have hl2 := numR_lt hM
  rw [ba_size] at hl2
  go_wp2_with (first
               | (go_at_call 79; (with_reducible refine QM.out.mono ?_); rintro e' w4 ⟨rfl, rfl⟩)
               | (go_at_call 80
                  (with_reducible refine QB.out.mono ?_)
                  go_loud (
                  rintro e' w4 ⟨rfl, hr4, hk4⟩
                  have h4 := H3.out.next hr4 hk4
                  have r3 := h4.b.at3
                  have qn : Calls Tryd.prog 82 #[.int .u64 0, .int .u64 100000, .pointer (some ⟨ps, 0, none⟩), .pointer (some ⟨pa, 0, none⟩), .pointer (some ⟨pm, 0, none⟩)] w4 (Had w4 pa pm ps O (fun n : Nat => .int .u64 (n : Int)) (numR O.data.toList 3 0 100000)) := number_any (least := 0) (most := 100000) h4.r hOs (by have := magR_none hB; rw [ba_size] at this; omega) (by omega) (by omega)
                  rw [hN] at qn
                  have QN := Lib.hid qn
                  have H4 := Lib.hid h4
                  clear r0 r1 hr4 hk4 h4 qn))
               | (go_at_call 82
                  (with_reducible refine QN.out.mono ?_)
                  go_loud (
                  rintro e' w5 ⟨rfl, hr5, hk5⟩
                  have h5 := H4.out.next hr5 hk5
                  have r4 := h5.b.at3
                  have qm : Calls Tryd.prog 82 #[.int .u64 1, .int .u64 18446744073709551615, .pointer (some ⟨ps, 0, none⟩), .pointer (some ⟨pa, 0, none⟩), .pointer (some ⟨pm, 0, none⟩)] w5 (Had w5 pa pm ps O (fun n : Nat => .int .u64 (n : Int)) (numR O.data.toList a1 1 18446744073709551615)) := number_any (least := 1) (most := 18446744073709551615) h5.r hOs (by omega) (by omega) (by omega)
                  rw [hM] at qm
                  have QM2 := Lib.hid qm
                  have H5 := Lib.hid h5
                  clear r3 hr5 hk5 h5 qm))
               | (go_at_call 82
                  (with_reducible refine QM2.out.mono ?_)
                  go_loud (
                  rintro e' w6 ⟨rfl, hr6, hk6⟩
                  have h6 := H5.out.next hr6 hk6
                  have H6 := Lib.hid h6
                  clear r4 hr6 hk6 h6)))
  go_loopw [29] (fun s29 wr => ∃ (k ak F : Nat) (xs : List (Value × DSt)) (v : Value), k ≤ m ∧ s29 = .int .u64 k ∧ Hid (RInv w wr w2.heap.size pa pm ps O m a2 k ak F xs v)) (fun s29 _ => m - (intOf s29).toNat)
  case atStart => exact ⟨0, a2, O.size + 2, [], .slice none 0 0, Nat.zero_le _, rfl, Lib.hid ⟨H6.out, rows_nil _ _, rfl, Nat.zero_le _, by omega, by omega, rfl⟩⟩
  case round =>
    obtain ⟨k, ak, F, xs, v, hk, rfl, HR⟩ := hrel
    obtain ⟨adv, cv, rfl⟩ := HR.out.rows.1.form
    have hF0 : 0 < F := by have := HR.out.fu; have := HR.out.hi; omega
    by_cases hlt : k < m
    · have e0 : decide ((k : Int) < (m : Int)) = true := by simp only [decide_eq_true_eq]; omega
      have q0 := HR.out.g.f.at0
      have r0 := HR.out.g.b.at0
      have r1 := HR.out.g.b.at1
      have r2 := HR.out.g.b.at2
      have r3 := HR.out.g.b.at3
      have r4 := HR.out.g.b.at4
      cases hA : stR O.data.toList k ak with
      | error e3 =>
        obtain ⟨c3, p3⟩ := e3
        have hres := HR.out.res.trans (stsR_err hlt hF0 hA)
        have QA : Hid (∀ W, Below wr.heap.size wr W → Calls Tryd.prog 60 #[.agg (rdrC pa pm ps), .int .u64 (k : Int)] W (Faulted W pa c3 p3)) := Lib.hid fun W hW => by
          have := state_any (own := k) (HR.out.g.below hW).r hOs HR.out.hi (by have := HR.out.le; have := HR.out.hi; omega)
          rw [hA] at this
          exact this
        go_wp2
        refine Said.region_panics (by kernel_rfl) 4 [7] _ rfl rfl (by kernel_rfl) (by kernel_rfl) (by kernel_rfl) [.is (.pointer (some ⟨w.heap.size, 0, none⟩)), .is (.slice adv xs.length cv), .is (.agg (rdrC pa pm ps)), .is (.int .u64 (k : Int))] (by simp) ?_ ?_
        · simp only [List.toList_toArray, List.take_succ_cons, List.take_zero]
          have KW : ∀ W, Below wr.heap.size wr W → W.cell? ⟨w.heap.size, 0, none⟩ = some (.slice adv xs.length cv) ∧ RB W w2.heap.size pa pm ps := fun W hW => ⟨(HR.out.g.below hW).f.at0, (HR.out.g.below hW).b⟩
          iterate 4 (
            refine sq_pure (by rfl) (fun W hb _ => ?_) ?_
            · obtain ⟨y0, y1⟩ := KW W hb
              have y2 := y1.at0
              have y3 := y1.at1
              have y4 := y1.at2
              have y5 := y1.at3
              have y6 := y1.at4
              first | (go_simp; done) | (go_simp; rfl)
            simp only [Act.put, List.setIfInBounds_toArray, List.set_cons_zero, List.set_cons_succ])
          refine sq_end (fun W hb _ => ?_)
          intro b' hex hdf
          refine panics_of (f := 60) (args := #[.agg (rdrC pa pm ps), .int .u64 (k : Int)]) (by go_simp) hex (QA.out W hb) fun e' w2' h => ?_
          have HF := FaultB.of (HR.out.g.below hb).k HR.out.g.ne.2.2.2.2.2 h
          obtain ⟨bf, rfl, h1, h2, h3⟩ := h
          exact ⟨_, rfl, hdf, by rw [hres]; exact HF⟩
        · intro i hi o9 ho9 a9 hl9 W9
          obtain rfl : i = 7 := by simpa using hi
          obtain rfl := Option.some.inj ho9
          have e9 := hl9 3 (by decide)
          have ev : a9.eval (.tmp 3) = .pointer (some ⟨w.heap.size, 0, none⟩) := by simp [Act.eval, Array.getD_eq_getD_getElem?, e9]
          refine ⟨.pointer (some ⟨w.heap.size, 0, none⟩), ?_⟩
          go_simp
      | ok r3 =>
        obtain ⟨x, a3⟩ := r3
        have QA : Hid (Calls Tryd.prog 60 #[.agg (rdrC pa pm ps), .int .u64 (k : Int)] wr.drew fun e w' => (∃ ad c, e = .returned (.agg #[.slice ad x.arcs.length c, .bool x.fin, .int .u64 (x.out : Int)]) ∧ ARow w' wr.heap.size (.slice ad x.arcs.length c) x.arcs) ∧ Rdr w' pa pm ps O a3 ∧ Kp (fun g => g = pa) wr.drew w') := Lib.hid (by
          have := state_any (own := k) (HR.out.g.below (Below.refl _ wr).drew).r hOs HR.out.hi (by have := HR.out.le; have := HR.out.hi; omega)
          rw [hA] at this
          refine this.mono fun e w' hh => ?_
          obtain ⟨⟨v1, h1, h2⟩, h3⟩ := hh
          obtain ⟨ad, c, rfl⟩ := h2.form
          exact ⟨⟨ad, c, h1, h2⟩, h3⟩)
        have hlt3 := stR_lt hA
        rw [ba_size] at hlt3
        obtain ⟨F, rfl⟩ : ∃ F', F = F' + 1 := ⟨F - 1, by omega⟩
        have hres := HR.out.res.trans (stsR_step hlt hA)
        have HRES := Lib.hid (And.intro hres hlt3)
        clear hres hlt3 hA
        have hxs : xs.length ≤ 1000000000 := by have := HR.out.len; have := HR.out.le; have := HR.out.hi; omega
        go_wp2
        go_region_law (first
          | (refine step_call_ok (f := 60) (args := #[.agg (rdrC pa pm ps), .int .u64 (k : Int)]) rfl (by first | (go_simp; done) | (go_simp; rfl)) QA.out ?_
             intro e' w7 hh
             obtain ⟨⟨ad1, c1, rfl, hy1⟩, hr1, hk1⟩ := hh
             refine ⟨_, rfl, ?_⟩
             have hk1' : Kp (fun g => g = pa) wr w7 := (Kp.below (Below.refl _ wr).drew).trans hk1 (fun g e => .inl e)
             have hs1 := HR.out.g.next hr1 hk1'
             have z0 := hs1.f.at0
             have z1 : ∀ ob, (w7.alloc ob).cell? ⟨w.heap.size, 0, none⟩ = some (.slice adv xs.length cv) := fun ob => by rw [(below_alloc w7 ob).cell (p := ⟨w.heap.size, 0, none⟩) hs1.f.lt]; exact z0
             have hrows1 := HR.out.rows.kp hk1' (fun g cs fz _ hg e => by
               subst e
               have := HR.out.g.r.pos
               rw [this] at hg
               rcases hg with hg | hg <;> cases hg)
             have H1 := Lib.hid (And.intro hs1 (And.intro hrows1 (owns_base hy1 (by have := HR.out.g.k.size; exact this) : ARow w7 w.heap.size (.slice ad1 x.arcs.length c1) x.arcs)))
             clear hr1 hk1 hk1' hs1 hrows1 hy1)
          | (refine step_append_row (w2 := w7) (vs := .slice adv xs.length cv) rfl (.tmp 33) (.tmp 37) rfl rfl Tryd.underlying22 iState rfl (by decide) w.heap.size w.heap.size 0 (.slice adv xs.length cv) xs.length (stsC xs) (stC (.slice ad1 x.arcs.length c1, x)) w7.heap.size rfl rfl (heap_alloc_new w7 _) (below_alloc w7 _) H1.out.2.1.1 (by omega) (by have := H1.out.1.k.size; omega) rfl (by intro u hu; simp [stC] at hu; rcases hu with rfl | rfl | rfl <;> rfl) (fun e => by
               obtain ⟨_, cs9, fz9, h9⟩ := owns_cells H1.out.2.1.1 _ e
               have := H1.out.1.f
               unfold FstB at this
               rw [this] at h9
               cases h9) H1.out.1.f.at0 (H1.out.1.f.free 0) H1.out.1.f.lt ?_
             intro a5 n5 c5 w5' hA5 s1 s2))
        all_goals go_wp2
        all_goals (
          obtain ⟨m1, m2, m3, m4, m5⟩ := rows_next (y := (.slice ad1 x.arcs.length c1, x)) H1.out.1.f H1.out.1.r H1.out.1.b H1.out.2.1 H1.out.2.2 hA5 (by have := H1.out.1.ne; omega)
          refine ⟨?_, ?_⟩
          · exact ⟨k + 1, a3, F, xs ++ [(.slice ad1 x.arcs.length c1, x)], _, by omega, by go_num, Lib.hid ⟨⟨m1, m4, m3, H1.out.1.k.trans m5 (fun g e => .inl e), H1.out.1.ne⟩, m2, by rw [List.length_append, List.length_singleton, HR.out.len], by have := HR.out.le; have := HRES.out.2; omega, HRES.out.2.2, by have := HR.out.fu; have := HRES.out.2; omega, by rw [HRES.out.1]; simp⟩⟩
          · simp [intOf]; omega)
    · have e0 : decide ((k : Int) < (m : Int)) = false := by simp only [decide_eq_false_iff_not]; omega
      have hres := HR.out.res.trans (stsR_end (Nat.le_of_not_lt hlt) hF0)
      have r3 := HR.out.g.b.at3
      have qn : Calls Tryd.prog 82 #[.int .u64 0, .int .u64 18446744073709551615, .pointer (some ⟨ps, 0, none⟩), .pointer (some ⟨pa, 0, none⟩), .pointer (some ⟨pm, 0, none⟩)] wr (Had wr pa pm ps O (fun n : Nat => .int .u64 (n : Int)) (numR O.data.toList ak 0 18446744073709551615)) := number_any (least := 0) (most := 18446744073709551615) HR.out.g.r hOs HR.out.hi (by omega) (by omega)
      cases hI : numR O.data.toList ak 0 18446744073709551615 with
      | error e3 =>
        obtain ⟨c3, p3⟩ := e3
        rw [hI] at qn
        have QN9 := Lib.hid qn
        have HRES := Lib.hid (hres.symm ▸ bodyE_num (n := n) hI : bodyE O.data.toList n (stsR O.data.toList m (O.size + 2) 0 a2 []) = .error (c3, p3))
        clear qn hres hI
        go_wp2_with (go_at_call 82; (with_reducible refine QN9.out.mono ?_); rintro e' w7 h; have HF := Lib.hid (FaultB.of HR.out.g.k HR.out.g.ne.2.2.2.2.2 h); obtain ⟨bf, rfl, h1, h2, h3⟩ := h)
        refine ⟨rfl, ?_⟩
        rw [HRES.out]
        exact HF.out
      | ok r9 =>
        obtain ⟨i, a4⟩ := r9
        have hlt9 := numR_lt hI
        rw [ba_size] at hlt9
        rw [hI] at qn
        have QN9 := Lib.hid qn
        clear qn
        by_cases hE : a4 = O.size
        · subst hE
          have HRES := Lib.hid (hres.symm ▸ bodyE_ok (n := n) (by rw [ba_size]; exact hI) : bodyE O.data.toList n (stsR O.data.toList m (O.size + 2) 0 a2 []) = .ok (n, xs.map (·.2), i))
          clear hres hI
          go_wp2_with (first
            | (go_at_call 82
               (with_reducible refine QN9.out.mono ?_)
               go_loud (
               rintro e' w7 ⟨rfl, hr7, hk7⟩
               have h7 := HR.out.g.next hr7 hk7
               have f7 := h7.f.free 1
               have c7 := h7.f.at1
               have f8 := h7.f.set1 i
               have hk8 := kp_set w7 w.heap.size 1 (.int .u64 (i : Int))
               have hr8 := h7.r.kp hk8 (fun e => h7.ne.1 e.symm) (fun e => h7.ne.2.1 e.symm) (fun e => h7.ne.2.2.1 e.symm)
               have hb8 : RB (w7.setCell ⟨w.heap.size, 1, none⟩ (.int .u64 (i : Int))) w2.heap.size pa pm ps := (hk8.block _ (Array.getElem?_eq_some_iff.1 h7.b).1 (fun e => h7.ne.2.2.2.1 e.symm)).trans h7.b
               have r8 := hb8.at4
               have qe := (end_any hr8).mono fun e w' h => (end_yes h)
               have QE := Lib.hid qe
               have q8 := f8.at0
               have q9 := f8.at1
               have p8 := f8.free 0
               have p9 := f8.free 1
               have H8 := Lib.hid (And.intro f8 (And.intro (h7.k.trans hk8 (fun g e => .inl (by rw [e]; exact Nat.le_refl _))) (And.intro hk7 hk8)))
               clear r3 hr7 hk7 h7 f8 hk8 hr8 hb8 qe))
            | (go_at_call 84; (with_reducible refine QE.out.mono ?_); rintro e' w9 ⟨rfl, rfl⟩))
          go_region
          go_wp2
          have y0 := kp_set (w7.setCell ⟨w.heap.size, 1, none⟩ (.int .u64 (i : Int))) w.heap.size 0 (.slice adv xs.length cv)
          have y1 := kp_set ((w7.setCell ⟨w.heap.size, 1, none⟩ (.int .u64 (i : Int))).setCell ⟨w.heap.size, 0, none⟩ (.slice adv xs.length cv)) w.heap.size 1 (.int .u64 (i : Int))
          have m1 := (H8.out.1.set0 (.slice adv xs.length cv)).set1 i
          have hk := ((H8.out.2.1.trans y0 (fun g e => .inl (by rw [e]; exact Nat.le_refl _))).trans y1 (fun g e => .inl (by rw [e]; exact Nat.le_refl _))).drew
          have hkr := (((((H8.out.2.2.1.mono (N := fun g => g = pa ∨ g = w.heap.size) (fun g e => .inl (.inl e))).trans H8.out.2.2.2 (fun g e => .inl (.inr e))).trans y0 (fun g e => .inl (.inr e))).trans y1 (fun g e => .inl (.inr e)))).drew
          have hrows := HR.out.rows.kp hkr (fun g cs fz _ hg e => by
            rcases e with e | e
            · subst e
              rw [HR.out.g.r.pos] at hg
              rcases hg with hg | hg <;> cases hg
            · subst e
              have := HR.out.g.f
              unfold FstB at this
              rw [this] at hg
              rcases hg with hg | hg <;> cases hg)
          have c0 : (((w7.setCell ⟨w.heap.size, 1, none⟩ (.int .u64 (i : Int))).setCell ⟨w.heap.size, 0, none⟩ (.slice adv xs.length cv)).setCell ⟨w.heap.size, 1, none⟩ (.int .u64 (i : Int))).drew.cell? ⟨w.heap.size, 0, none⟩ = some (.slice adv xs.length cv) := m1.at0
          have c1 : (((w7.setCell ⟨w.heap.size, 1, none⟩ (.int .u64 (i : Int))).setCell ⟨w.heap.size, 0, none⟩ (.slice adv xs.length cv)).setCell ⟨w.heap.size, 1, none⟩ (.int .u64 (i : Int))).drew.cell? ⟨w.heap.size, 1, none⟩ = some (.int .u64 (i : Int)) := m1.at1
          refine bodyPost_ret (v := .tuple #[.int .i64 (n : Int), .agg #[.slice adv xs.length cv, .int .u64 (i : Int)]]) (by simp [results, Tryd.results39, go_sem, c0, c1, m1.at0, m1.at1, q8, q9]) rfl ?_
          rw [HRES.out]
          exact ⟨⟨.slice adv xs.length cv, xs, rfl, hrows, rfl⟩, hk.to (Nat.le_refl _) fun g e => e⟩
        · have HRES := Lib.hid (hres.symm ▸ bodyE_long (n := n) hI (by rw [ba_size]; exact hE) : bodyE O.data.toList n (stsR O.data.toList m (O.size + 2) 0 a2 []) = .error (4, a4))
          clear hres hI
          go_wp2_with (first
            | (go_at_call 82
               (with_reducible refine QN9.out.mono ?_)
               go_loud (
               rintro e' w7 ⟨rfl, hr7, hk7⟩
               have h7 := HR.out.g.next hr7 hk7
               have f7 := h7.f.free 1
               have c7 := h7.f.at1
               have hk8 := kp_set w7 w.heap.size 1 (.int .u64 (i : Int))
               have hr8 := h7.r.kp hk8 (fun e => h7.ne.1 e.symm) (fun e => h7.ne.2.1 e.symm) (fun e => h7.ne.2.2.1 e.symm)
               have hb8 : RB (w7.setCell ⟨w.heap.size, 1, none⟩ (.int .u64 (i : Int))) w2.heap.size pa pm ps := (hk8.block _ (Array.getElem?_eq_some_iff.1 h7.b).1 (fun e => h7.ne.2.2.2.1 e.symm)).trans h7.b
               have r8 := hb8.at4
               have qe := (end_any hr8).mono fun e w' h => end_not h hE
               have QE := Lib.hid qe
               have H8 := Lib.hid (And.intro (h7.k.trans hk8 (fun g e => .inl (by rw [e]; exact Nat.le_refl _))) h7.ne.2.2.2.2.2)
               clear r3 hr7 hk7 h7 hk8 hr8 hb8 qe))
            | (go_at_call 84; (with_reducible refine QE.out.mono ?_); rintro e' w9 h; have HF := Lib.hid (FaultB.of H8.out.1 H8.out.2 h); obtain ⟨bf, rfl, h1, h2, h3⟩ := h))
          refine ⟨rfl, ?_⟩
          rw [HRES.out]
          exact HF.out

end Go.Proofs.YtjiilmiikejnhaaDoor
namespace Go.Proofs.YtjiilmiikejnhaaDoor
open Go.RowKit Go.Shelf Said

theorem opened_size (s : ByteArray) : (opened s).size ≤ s.size := by
  unfold opened
  split
  · unfold body
    rw [ByteArray.size_extract]
    omega
  · exact Nat.zero_le _

theorem read_any {w : World} {s : ByteArray} (hF : Fours w) (hs : s.size ≤ 1000000000) : Calls Tryd.prog 39 #[.string s] w (Read w (readR s)) := by
  have hOs : (opened s).size ≤ 1000000000 := Nat.le_trans (opened_size s) hs
  unfold readR
  by_cases hS : isSeal s = true
  · rw [if_pos hS]
    unfold bodyR
    cases hB : magR (opened s).data.toList 4 0 with
    | some e =>
      obtain ⟨c, p⟩ := e
      exact read_e1 hF hs hS rfl hOs hB
    | none =>
      dsimp only
      cases hN : numR (opened s).data.toList 3 0 100000 with
      | error e =>
        obtain ⟨c, p⟩ := e
        exact read_e2 hF hs hS rfl hOs hB hN
      | ok r =>
        obtain ⟨n, a1⟩ := r
        dsimp only
        cases hM : numR (opened s).data.toList a1 1 18446744073709551615 with
        | error e =>
          obtain ⟨c, p⟩ := e
          exact read_e3 hF hs hS rfl hOs hB hN hM
        | ok r =>
          obtain ⟨m, a2⟩ := r
          have h := read_main hF hs hS rfl hOs hB hN hM
          dsimp only
          rw [ba_size]
          cases hT : stsR (opened s).data.toList m ((opened s).size + 2) 0 a2 [] with
          | error e =>
            rw [hT] at h
            exact h
          | ok r =>
            obtain ⟨l, a3⟩ := r
            rw [hT] at h
            unfold bodyE at h
            rw [ba_size] at h
            exact h
  · rw [if_neg hS]
    exact read_e0 hF hs (by simpa using hS) rfl hOs

end Go.Proofs.YtjiilmiikejnhaaDoor

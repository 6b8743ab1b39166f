/-
  Put. Size.
-/
import Derived.Test.YtjiilmiikejnhaaDoorP25
import Derived.Test.YtjiilmiikejnhaaDoorP19
set_option linter.unusedVariables false
set_option linter.unusedSimpArgs false
namespace Go.Proofs.YtjiilmiikejnhaaDoor
open Go.RowKit Go.Shelf

set_option maxRecDepth 100000 in
theorem conv_laid {w : World} {base : Nat} {ad : Option Addr} {c : Nat} {L : List UInt8} (h : w.ownsRow base 5 1 (.slice ad L.length c) L.length (Lib.byteCells L)) (hL : L ≠ []) : (convert 74 9 (.slice ad L.length c)).run Tryd.prog w = .ok (.string ⟨L.toArray⟩) w := by
  rcases id h.2 with ⟨_, h0⟩ | ⟨g, cap, cur, hv, _⟩
  · exact absurd (List.length_eq_zero_iff.1 h0) hL
  · cases hv
    have hcv := run_convert_bytes_arg (P := Tryd.prog) w 74 5 Tryd.underlying74 Tryd.underlying5 g 0 L.length c (L.map fun x => (x.toNat : Int)) (by simp) (fun i hi => by
      rw [Nat.zero_add, World.ownsRow.cellAt h i (by omega)]
      simp [Lib.byteCells, List.getD, hi]) 9 Tryd.underlying9
    rw [hcv]
    congr 2
    apply ByteArray.ext
    apply Array.toList_inj.1
    rw [strOfNums_data, List.map_map]
    show _ = L
    conv => rhs; rw [← List.map_id L]
    apply List.map_congr_left
    intro y _
    simp

set_option maxHeartbeats 1000000 in
set_option maxRecDepth 100000 in
theorem sealed_any {w : World} {base : Nat} {ad : Option Addr} {c : Nat} {L : List UInt8} (hF : Fours w) (h : w.ownsRow base 5 1 (.slice ad L.length c) L.length (Lib.byteCells L)) (hL : L ≠ []) (hl : L.length ≤ 1000000000) :
    Calls Tryd.prog 29 #[.slice ad L.length c] w fun e w' => e = .returned (.string (sealed ⟨L.toArray⟩)) ∧ Below w.heap.size w w' := by
  have hcv := conv_laid h hL
  have QS := Lib.hid (seal_any ⟨L.toArray⟩ w hF (by simp [ByteArray.size]; omega))
  clear h hL
  go_enter Tryd.func29, Tryd.ntmps29
  go_wp2_with (go_at_call 20; (with_reducible refine QS.out.mono ?_); rintro e' w1 ⟨rfl, hb1⟩; have HB := Lib.hid hb1; clear hb1)
  go_ret
  exact ⟨rfl, HB.out⟩

set_option maxHeartbeats 1000000 in
set_option maxRecDepth 100000 in
theorem packPut_no {w : World} {n : Int} {v : Value} {l : List DSt} {init : Nat} (h : Sts w v l) (hl : l.length ≤ 100000) (ha : ∀ s ∈ l, s.arcs.length ≤ 100000) (hm : mayT n l = false) :
    Calls Tryd.prog 11 #[.int .i64 n, .agg #[v, .int .u64 (init : Int)]] w fun e w' => e = .returned (.tuple #[.string ⟨#[]⟩, .int .i64 2]) ∧ Below w.heap.size w w' := by
  obtain ⟨ad, c, hv, -⟩ := id h
  subst hv
  have q := may_any (n := n) (init := init) (h.below (below_alloc w (.cells #[.slice ad l.length c, .int .u64 (init : Int)] 25))) hl ha
  rw [hm] at q
  have Q := Lib.hid q
  clear q hm h ha
  go_enter Tryd.func11, Tryd.ntmps11
  go_wp2_with (go_at_call 25; (with_reducible refine Q.out.mono ?_); rintro e' w1 ⟨rfl, hb1⟩; have HB := Lib.hid hb1; clear hb1)
  go_ret2
  exact ⟨rfl, (below_alloc w _).trans (HB.out.mono (by simp))⟩

set_option maxHeartbeats 1000000 in
set_option maxRecDepth 100000 in
theorem packPut_yes {w : World} {n : Nat} {v : Value} {l : List DSt} {init : Nat} (hF : Fours w) (h : Sts w v l) (hl : l.length ≤ 100000) (ha : ∀ s ∈ l, s.arcs.length ≤ 100000) (hm : mayT (n : Int) l = true) (hn : n ≤ 100000) (hi : init < 18446744073709551616) (hms : maySs 0 l = true) (hok : ∀ s ∈ l, s.ok) (hB : (layT n l init).length ≤ 1000000000) :
    Calls Tryd.prog 11 #[.int .i64 (n : Int), .agg #[v, .int .u64 (init : Int)]] w fun e w' => e = .returned (.tuple #[.string (sealed ⟨(layT n l init).toArray⟩), .int .i64 0]) ∧ Below w.heap.size w w' := by
  have HSW := Lib.hid h
  obtain ⟨ad, c, hv, -⟩ := id h
  subst hv
  have q := may_any (n := (n : Int)) (init := init) (h.below (below_alloc w (.cells #[.slice ad l.length c, .int .u64 (init : Int)] 25))) hl ha
  rw [hm] at q
  have Q := Lib.hid q
  have HF := Lib.hid hF
  have HX := Lib.hid (And.intro hn (And.intro hi (And.intro hl (And.intro hms (And.intro hok hB)))))
  clear q hm h ha hF hn hi hl hms hok hB
  go_enter Tryd.func11, Tryd.ntmps11
  go_wp2_with (first
               | (go_at_call 25
                  (with_reducible refine Q.out.mono ?_)
                  go_loud (
                  rintro e' w1 ⟨rfl, hb1⟩
                  have hbw : Below w.heap.size w w1 := (below_alloc w (.cells #[.slice ad l.length c, .int .u64 (init : Int)] 25)).trans (hb1.mono (by simp))
                  have hfb : FstB w1 w.heap.size (.slice ad l.length c) init := (hb1.block _ (by simp)).trans (heap_alloc_new w _)
                  have hb2 : Below w.heap.size w (w1.alloc (.cells #[.slice none 0 0] 76)) := hbw.trans ((below_alloc w1 _).mono hbw.size)
                  have hfb2 : FstB (w1.alloc (.cells #[.slice none 0 0] 76)) w.heap.size (.slice ad l.length c) init := (alloc_old w1 _ hfb.lt).trans hfb
                  have z0 := hfb2.at0
                  have z1 := hfb2.at1
                  have hwr : Wr (w1.alloc (.cells #[.slice none 0 0] 76)) w1.heap.size w.heap.size [] := ⟨_, heap_alloc_new w1 _, rfl, .inl ⟨rfl, rfl⟩⟩
                  have ql := lay_put (n := n) (init := init) hwr hbw.size hb2.size HSW.out rfl hb2 HX.out.1 HX.out.2.1 HX.out.2.2.1 HX.out.2.2.2.1 HX.out.2.2.2.2.1 HX.out.2.2.2.2.2
                  have QL := Lib.hid ql
                  have HB2 := Lib.hid (And.intro hb2 hbw)
                  clear ql hb1 hbw hfb hb2 hfb2 hwr))
               | (go_at_call 26
                  (with_reducible refine QL.out.mono ?_)
                  go_loud (
                  rintro e' w3 ⟨rfl, hw3, hk3⟩
                  obtain ⟨a3, c3, k1, k2⟩ := hw3.form
                  have z3 : w3.cell? ⟨w1.heap.size, 0, none⟩ = some (.slice a3 (layT n l init).length c3) := by rw [cell_of_row w3 _ 0 _ _ _ k1]; rfl
                  have hb3 : Below w.heap.size w w3 := HB2.out.1.trans (hk3.to HB2.out.1.size fun g e => e)
                  have QS := Lib.hid (sealed_any (HF.out.below hb3) k2 (by simp [layT, magicL]) HX.out.2.2.2.2.2)
                  have HB3 := Lib.hid hb3
                  clear hw3 hk3 k1 k2 hb3))
               | (go_at_call 29; (with_reducible refine QS.out.mono ?_); rintro e' w4 ⟨rfl, hb4⟩; have HB4 := Lib.hid hb4; clear hb4))
  go_ret2
  exact ⟨rfl, HB3.out.trans (HB4.out.mono HB3.out.size)⟩

end Go.Proofs.YtjiilmiikejnhaaDoor
namespace Go.Proofs.YtjiilmiikejnhaaDoor
open Go.RowKit Go.Shelf

set_option maxHeartbeats 1000000 in
set_option maxRecDepth 100000 in
theorem packSize_no {w : World} {n : Int} {v : Value} {l : List DSt} {init : Nat} (h : Sts w v l) (hl : l.length ≤ 100000) (ha : ∀ s ∈ l, s.arcs.length ≤ 100000) (hm : mayT n l = false) :
    Calls Tryd.prog 13 #[.int .i64 n, .agg #[v, .int .u64 (init : Int)]] w fun e w' => e = .returned (.int .i64 0) ∧ Below w.heap.size w w' := by
  obtain ⟨ad, c, hv, -⟩ := id h
  subst hv
  have q := may_any (n := n) (init := init) (h.below (below_alloc w (.cells #[.slice ad l.length c, .int .u64 (init : Int)] 25))) hl ha
  rw [hm] at q
  have Q := Lib.hid q
  clear q hm h ha
  go_enter Tryd.func13, Tryd.ntmps13
  go_wp2_with (go_at_call 25; (with_reducible refine Q.out.mono ?_); rintro e' w1 ⟨rfl, hb1⟩; have HB := Lib.hid hb1; clear hb1)
  go_ret
  exact ⟨rfl, (below_alloc w _).trans (HB.out.mono (by simp))⟩

set_option maxHeartbeats 1000000 in
set_option maxRecDepth 100000 in
theorem packSize_yes {w : World} {n : Nat} {v : Value} {l : List DSt} {init : Nat} (h : Sts w v l) (hl : l.length ≤ 100000) (ha : ∀ s ∈ l, s.arcs.length ≤ 100000) (hm : mayT (n : Int) l = true) (hn : n ≤ 100000) (hi : init < 18446744073709551616) (hms : maySs 0 l = true) (hok : ∀ s ∈ l, s.ok) (hB : (layT n l init).length ≤ 1000000000) :
    Calls Tryd.prog 13 #[.int .i64 (n : Int), .agg #[v, .int .u64 (init : Int)]] w fun e w' => e = .returned (.int .i64 ((4 + (layT n l init).length : Nat) : Int)) ∧ Below w.heap.size w w' := by
  have HSW := Lib.hid h
  obtain ⟨ad, c, hv, -⟩ := id h
  subst hv
  have q := may_any (n := (n : Int)) (init := init) (h.below (below_alloc w (.cells #[.slice ad l.length c, .int .u64 (init : Int)] 25))) hl ha
  rw [hm] at q
  have Q := Lib.hid q
  have HX := Lib.hid (And.intro hn (And.intro hi (And.intro hl (And.intro hms (And.intro hok hB)))))
  clear q hm h ha hn hi hl hms hok hB
  obtain ⟨sz, hsz⟩ : ∃ sz, 4 + (layT n l init).length = sz := ⟨_, rfl⟩
  have HSZ := Lib.hid hsz
  rw [hsz]
  clear hsz
  go_enter Tryd.func13, Tryd.ntmps13
  go_wp2_with (first
               | (go_at_call 25
                  (with_reducible refine Q.out.mono ?_)
                  go_loud (
                  rintro e' w1 ⟨rfl, hb1⟩
                  have hbw : Below w.heap.size w w1 := (below_alloc w (.cells #[.slice ad l.length c, .int .u64 (init : Int)] 25)).trans (hb1.mono (by simp))
                  have hfb : FstB w1 w.heap.size (.slice ad l.length c) init := (hb1.block _ (by simp)).trans (heap_alloc_new w _)
                  have hb2 : Below w.heap.size w (w1.alloc (.cells #[.int .i64 4] 3)) := hbw.trans ((below_alloc w1 _).mono hbw.size)
                  have hfb2 : FstB (w1.alloc (.cells #[.int .i64 4] 3)) w.heap.size (.slice ad l.length c) init := (alloc_old w1 _ hfb.lt).trans hfb
                  have z0 := hfb2.at0
                  have z1 := hfb2.at1
                  have hwr : WrS (w1.alloc (.cells #[.int .i64 4] 3)) w1.heap.size w.heap.size [] := ⟨heap_alloc_new w1 _, hbw.size⟩
                  have ql := lay_size (n := n) (init := init) hwr hbw.size hb2.size HSW.out rfl hb2 HX.out.1 HX.out.2.1 HX.out.2.2.1 HX.out.2.2.2.1 HX.out.2.2.2.2.1 HX.out.2.2.2.2.2
                  have QL := Lib.hid ql
                  have HB2 := Lib.hid (And.intro hb2 hbw)
                  clear ql hb1 hbw hfb hb2 hfb2 hwr))
               | (go_at_call 26
                  (with_reducible refine QL.out.mono ?_)
                  go_loud (
                  rintro e' w3 ⟨rfl, hw3, hk3⟩
                  have hw4 := hw3.1
                  rw [HSZ.out] at hw4
                  have z3 := hw4.at0
                  have HB3 := Lib.hid (HB2.out.1.trans (hk3.to HB2.out.1.size fun g e => e))
                  clear hw3 hk3 hw4)))
  go_ret
  exact ⟨rfl, HB3.out⟩

end Go.Proofs.YtjiilmiikejnhaaDoor

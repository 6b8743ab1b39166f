/-
  PackReads: one text, read by both.
-/
import Derived.Test.YtjiilmiikejnhaaDoorP41
import Derived.Test.YtjiilmiikejnhaaDoorP29
import Derived.Test.YtjiilmiikejnhaaDoorP34
set_option linter.unusedVariables false
set_option linter.unusedSimpArgs false
namespace Go.Proofs.YtjiilmiikejnhaaDoor
open Go.RowKit Go.Shelf Said

theorem packRef_any {w : World} {s : ByteArray} (hs : s.size ≤ 90000) : Calls Tryd.prog 37 #[.string s] w (RefGot w (readR s)) := by
  cases hS : isSeal s with
  | false => exact refGet_not (by omega) hS
  | true => exact refGet_is (by omega) hS rfl (Nat.le_trans (opened_size s) hs) (by unfold readR; rw [hS]; rfl)
theorem readR_few {s : ByteArray} (hs : s.size ≤ 90000) {n i : Nat} {l : List DSt} (h : readR s = .ok (n, l, i)) : l.length ≤ 100000 ∧ ∀ x ∈ l, x.arcs.length ≤ 100000 := by
  unfold readR at h
  split at h
  · have e : (opened s).data.toList.length = (opened s).size := rfl
    have := opened_size s
    obtain ⟨-, -, -, -, -, h6, h7⟩ := bodyR_ok (by omega) h
    exact ⟨by omega, fun x hx => Nat.le_trans (maySs_arcs h6 x hx) (by omega)⟩
  · cases h
theorem readR_c {s : ByteArray} (hs : s.size ≤ 90000) {c p : Nat} (h : readR s = .error (c, p)) : c ≠ 0 := by
  unfold readR at h
  split at h
  · have e : (opened s).data.toList.length = (opened s).size := rfl
    have := opened_size s
    have ha := body_agr (opened s).data.toList (by omega)
    rw [h] at ha
    exact ha.2.2
  · cases h
    decide

set_option maxHeartbeats 2000000 in
set_option maxRecDepth 100000 in
theorem reads_core {w : World} {s : ByteArray} {n i : Nat} {c p : Int} {l : List DSt} (hl : l.length ≤ 100000) (ha : ∀ x ∈ l, x.arcs.length ≤ 100000)
    (Q : Calls Tryd.prog 18 #[.string s] w fun e w' => ∃ ad c1 ev, e = .returned (.tuple #[.int .i64 (n : Int), .agg #[.slice ad l.length c1, .int .u64 (i : Int)], ev]) ∧ Sts w' (.slice ad l.length c1) l ∧ (∀ W, Below w'.heap.size w' W → Calls Tryd.prog 21 #[ev, .agg #[.int .i64 c, .int .i64 p]] W fun e w' => e = .returned (.bool true) ∧ Below W.heap.size W w') ∧ Below w.heap.size w w')
    (QR : ∀ W, Calls Tryd.prog 37 #[.string s] W fun e w' => ∃ ad c1, e = .returned (.tuple #[.int .i64 (n : Int), .agg #[.slice ad l.length c1, .int .u64 (i : Int)], .agg #[.int .i64 c, .int .i64 p]]) ∧ Sts w' (.slice ad l.length c1) l ∧ Below W.heap.size W w') :
    Calls Tryd.prog 16 #[.string s] w fun e w' => e = .returned (.bool true) ∧ Below w.heap.size w w' := by
  have HQ := Lib.hid Q
  have HQR := Lib.hid QR
  obtain ⟨k, hk⟩ : ∃ k, l.length = k := ⟨_, rfl⟩
  rw [hk] at HQ HQR
  have HL := Lib.hid (And.intro hl (And.intro ha hk))
  clear Q QR hl ha hk
  go_enter Tryd.func16, Tryd.ntmps16
  go_upto_region 3 with (first
    | (go_at_call 18
       (with_reducible refine HQ.out.mono ?_)
       go_loud (
       rintro e' w1 ⟨ad, c1, ev, rfl, hs1, ht1, hb1⟩
       have H1 := Lib.hid (And.intro hs1 (And.intro ht1 hb1))
       clear hs1 ht1 hb1))
    | (go_at_call 37
       (with_reducible refine (HQR.out _).mono ?_)
       go_loud (
       rintro e' w2 ⟨ad2, c2, rfl, hs2, hb2⟩
       have H2 := Lib.hid (And.intro hs2 hb2)
       clear hs2 hb2)))
  obtain ⟨W1, hW1⟩ : ∃ W1, W1 = w1.alloc (.cells #[.slice ad k c1, .int .u64 (i : Int)] 25) := ⟨_, rfl⟩
  obtain ⟨W3, hW3⟩ : ∃ W3, W3 = (w2.alloc (.cells #[.slice ad2 k c2, .int .u64 (i : Int)] 25)).alloc (.cells #[.int .i64 c, .int .i64 p] 60) := ⟨_, rfl⟩
  have hb1 : Below w1.heap.size w1 W1 := by rw [hW1]; exact below_alloc _ _
  have hb2 : Below W1.heap.size W1 w2 := by rw [hW1]; exact H2.out.2
  have hb3 : Below w2.heap.size w2 W3 := by rw [hW3]; exact (below_alloc w2 _).alloc (by simp) _
  have f1 : FstB W1 w1.heap.size (.slice ad k c1) i := by rw [hW1]; exact heap_alloc_new w1 _
  have f2 : FstB W3 w2.heap.size (.slice ad2 k c2) i := by rw [hW3]; exact (alloc_old _ _ (by simp)).trans (heap_alloc_new w2 _)
  have g3 : FltB W3 (w2.heap.size + 1) c p := by rw [hW3]; exact alloc_at _ _ (by simp)
  have hb13 : Below w1.heap.size w1 W3 := (hb1.trans (hb2.mono hb1.size)).trans (hb3.mono (Nat.le_trans hb1.size hb2.size))
  have f3 : FstB W3 w1.heap.size (.slice ad k c1) i := f1.kp (Kp.below (M := fun _ => False) (hb2.trans (hb3.mono hb2.size))) (fun h => h)
  have s1 : Sts W3 (.slice ad k c1) l := H1.out.1.below hb13
  have s2 : Sts W3 (.slice ad2 k c2) l := H2.out.1.below hb3
  have hS := sameF_any (n1 := i) (n2 := i) s1 s2 HL.out.1 HL.out.1 HL.out.2.1 HL.out.2.1
  rw [decide_eq_true (⟨rfl, rfl⟩ : i = i ∧ l = l)] at hS
  have HS := Lib.hid hS
  have HB := Lib.hid (And.intro hb13 (And.intro g3 (H1.out.2.2.trans (hb13.mono H1.out.2.2.size))))
  have z0 := f3.at0
  have z1 := f3.at1
  have z2 := f2.at0
  have z3 := f2.at1
  rw [← hW3]
  clear hW1 hW3 hb1 hb2 hb3 f1 f2 f3 g3 hb13 s1 s2 hS
  go_wp2_with (first
    | (go_at_call 19
       (with_reducible refine HS.out.mono ?_)
       go_loud (
       rintro e' w4 ⟨rfl, hb4⟩
       have g4 := HB.out.2.1.below hb4
       have y0 := g4.at0
       have y1 := g4.at1
       have H4 := Lib.hid (And.intro (HB.out.1.trans (hb4.mono HB.out.1.size)) (HB.out.2.2.trans (hb4.mono HB.out.2.2.size)))
       have QT := Lib.hid (H1.out.2.1 w4 H4.out.1)
       clear hb4 g4))
    | (go_at_call 21
       (with_reducible refine QT.out.mono ?_)
       go_loud (
       rintro e' w5 ⟨rfl, hb5⟩
       have H5 := Lib.hid (H4.out.2.trans (hb5.mono H4.out.2.size))
       clear hb5)))
  go_ret
  exact ⟨rfl, H5.out⟩

theorem reads_any {w : World} (hF : Fours w) (hE : ErrT w) {s : ByteArray} (hs : s.size ≤ 90000) :
    Calls Tryd.prog 16 #[.string s] w fun e w' => e = .returned (.bool true) ∧ Below w.heap.size w w' := by
  have Q := packGet_any hF (s := s) (by omega)
  have QR : ∀ W, Calls Tryd.prog 37 #[.string s] W (RefGot W (readR s)) := fun W => packRef_any hs
  cases hr : readR s with
  | error e =>
    obtain ⟨c, p⟩ := e
    have hc := readR_c hs hr
    rw [hr] at Q QR
    refine reads_core (n := 0) (i := 0) (l := []) (c := (c : Int)) (p := (p : Int)) (by simp) (by simp) (Q.mono ?_) (fun W => (QR W).mono ?_)
    · rintro e w' ⟨⟨bf, rfl, h1, h2⟩, h3⟩
      exact ⟨none, 0, _, rfl, sts_none w', fun W hb => told_yes ((hE.below h3).below hb) ((show FltB w' bf c p from h2).below hb) (by rw [beq_eq_false_iff_ne]; omega), h3⟩
    · rintro e w' ⟨rfl, h3⟩
      exact ⟨none, 0, rfl, sts_none w', h3⟩
  | ok r =>
    obtain ⟨n, l, i⟩ := r
    obtain ⟨hl, ha⟩ := readR_few hs hr
    rw [hr] at Q QR
    refine reads_core (n := n) (i := i) (l := l) (c := 0) (p := 0) hl ha (Q.mono ?_) (fun W => (QR W).mono ?_)
    · rintro e w' ⟨⟨v, xs, rfl, h1, h2⟩, h3⟩
      have hst := h1.sts
      rw [h2] at hst
      obtain ⟨ad, c, rfl, hc⟩ := hst
      exact ⟨ad, c, _, rfl, ⟨ad, c, rfl, hc⟩, fun W hb => told_none, h3⟩
    · rintro e w' ⟨⟨ad, c, rfl, h1⟩, h3⟩
      exact ⟨ad, c, rfl, h1, h3⟩
end Go.Proofs.YtjiilmiikejnhaaDoor

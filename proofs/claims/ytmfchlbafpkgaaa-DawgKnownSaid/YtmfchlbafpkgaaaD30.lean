/-
  The transducer of a list, built. ordered. Right. The document's: are two states alike, are two transducers. The law's 'made', and literals. The closed law's lists and transducers, reckoned. The chapter's examples. The closed law's transducers that are not right, in memory. DawgKnown: the closed law.
-/
import Derived.Test.YtmfchlbafpkgaaaD27
import Derived.Test.YtmfchlbafpkgaaaD29
import Derived.WalkMore
import Derived.Laws.StructEq
set_option linter.unusedVariables false
set_option linter.unusedSimpArgs false
namespace Go.Proofs.Ytmfchlbafpkgaaa
open Go.RowKit Go.Shelf

theorem stsC_get : ∀ (l : List (Value × DSt)) (i c : Nat) (h : i < l.length), c < 3 → (stsC l)[i * 3 + c]? = (stC l[i])[c]?
  | [], i, c, h, _ => by simp at h
  | x :: l, 0, c, _, hc => by
    have : stsC (x :: l) = stC x ++ stsC l := by simp [stsC]
    rw [this, Nat.zero_mul, Nat.zero_add, List.getElem?_append_left (by simp [stC]; omega)]
    rfl
  | x :: l, i + 1, c, h, hc => by
    have e : stsC (x :: l) = stC x ++ stsC l := by simp [stsC]
    rw [e, List.getElem?_append_right (by simp [stC]; omega)]
    have := stsC_get l i c (by simpa using h) hc
    rw [show (i + 1) * 3 + c - (stC x).length = i * 3 + c by simp [stC]; omega, this]
    rfl

/-- A row of states of one's own, read. -/
theorem sts_of {w : World} {base : Nat} {vs : Value} {xs : List (Value × DSt)} (hs : SRow w base vs xs) (ha : ∀ x ∈ xs, ARow w base x.1 x.2.arcs) : Sts w vs (xs.map (·.2)) := by
  rcases id hs.2 with ⟨rfl, h0⟩ | ⟨g, cap, cur, rfl, _, hg, _, _, _, ht⟩
  · refine ⟨none, 0, by simp at h0; simp [h0], fun i hi => ?_⟩
    simp at h0
    simp [h0] at hi
  · refine ⟨_, cap, by rw [List.length_map], fun i hi => ⟨g, 0, rfl, ?_⟩⟩
    have hi' : i < xs.length := by simpa using hi
    have h3 : ∀ c, c < 3 → w.cell? ⟨g, 0 + i * 3 + c, none⟩ = (stC xs[i])[c]? := fun c hc => by
      rw [Nat.zero_add, World.ownsRow.cellAt hs _ (by omega)]
      exact stsC_get xs i c hi' hc
    have e : stAt (xs.map (·.2)) i = xs[i].2 := by rw [stAt_lt hi]; simp
    rw [e]
    exact ⟨xs[i].1, h3 0 (by omega), h3 1 (by omega), h3 2 (by omega), (ha _ (List.getElem_mem hi')).arcs⟩

theorem make_one (W : World) : (Instr.makeSlice 62 (.int .i64 1) (.int .i64 1)).run Try.prog W = .ok (.slice (some ⟨W.heap.size, 0, none⟩) 1 1) (W.alloc (.cells #[.slice none 0 0, .bool false, .int .u64 0] 91)) := by
  obtain ⟨i0, hi, hz0, hz1, hz2⟩ := info_parts iState
  have h := run_make (P := Try.prog) W 62 91 i0 _ Try.underlying62 hi hz0 .i64 .i64 1 1 (by omega) (by omega) (by rw [hz2]; omega) (by omega)
  rw [hz1] at h
  have e3 : Array.range 3 = #[0, 1, 2] := by decide
  simpa [madeCells, Value.cells, e3] using h

/-- A row with one new state. -/
theorem srow_new {W : World} {base g : Nat} {fz : Nat × Nat} (h : W.heap[g]? = some (.cells #[.slice none 0 0, .bool false, .int .u64 0] 91 (0, 0))) (hb : base ≤ g) : SRow W base (.slice (some ⟨g, 0, none⟩) 1 1) [(.slice none 0 0, ⟨[], false, 0⟩)] :=
  ⟨rfl, .inr ⟨g, 1, _, rfl, hb, h, Nat.le_refl _, by unfold maxLen; omega, rfl, rfl⟩⟩
theorem arow_nil (W : World) (base : Nat) : ARow W base (.slice none 0 0) [] := ⟨rfl, .inl ⟨rfl, rfl⟩⟩

/-- The making at its start. -/
theorem mk_start {w1 W : World} (hW : W = ((w1.alloc (.cells #[.slice none 0 0, .bool false, .int .u64 0] 91)).alloc (.map #[] 0)).alloc (.cells #[.string ⟨#[]⟩, .slice (some ⟨w1.heap.size, 0, none⟩) 1 1, .slice none 0 0, .map (some (w1.heap.size + 1))] 123)) :
    Mk W w1.heap.size (w1.heap.size + 1 + 1) ⟨#[]⟩ [(.slice none 0 0, ⟨[], false, 0⟩)] [] (.slice (some ⟨w1.heap.size, 0, none⟩) 1 1) (.slice none 0 0) (w1.heap.size + 1) (fun _ => 0) ∧ Below w1.heap.size w1 W := by
  have b1 := below_alloc w1 (.cells #[.slice none 0 0, .bool false, .int .u64 0] 91)
  have b2 := below_alloc (w1.alloc (.cells #[.slice none 0 0, .bool false, .int .u64 0] 91)) (.map #[] 0)
  have b3 := below_alloc ((w1.alloc (.cells #[.slice none 0 0, .bool false, .int .u64 0] 91)).alloc (.map #[] 0)) (.cells #[.string ⟨#[]⟩, .slice (some ⟨w1.heap.size, 0, none⟩) 1 1, .slice none 0 0, .map (some (w1.heap.size + 1))] 123)
  have z1 : (w1.alloc (.cells #[.slice none 0 0, .bool false, .int .u64 0] 91)).heap.size = w1.heap.size + 1 := by simp
  have z2 : ((w1.alloc (.cells #[.slice none 0 0, .bool false, .int .u64 0] 91)).alloc (.map #[] 0)).heap.size = w1.heap.size + 1 + 1 := by simp
  have h1 : W.heap[w1.heap.size]? = some (.cells #[.slice none 0 0, .bool false, .int .u64 0] 91 (0, 0)) := by
    rw [hW, b3.block _ (by omega), b2.block _ (by omega)]
    exact heap_alloc_new w1 _
  have h2 := kmap_made (w1.alloc (.cells #[.slice none 0 0, .bool false, .int .u64 0] 91)) (fun _ => 0)
  rw [z1] at h2
  have h3 : MakB W (w1.heap.size + 1 + 1) ⟨#[]⟩ (.slice (some ⟨w1.heap.size, 0, none⟩) 1 1) (.slice none 0 0) (w1.heap.size + 1) := by
    unfold MakB
    rw [hW, ← z2]
    exact heap_alloc_new _ _
  refine ⟨⟨h3, srow_new (fz := (0, 0)) h1 (Nat.le_refl _), ⟨rfl, .inl ⟨rfl, rfl⟩⟩, ?_, fun i hi => by simp at hi, by simp, ?_, by simp, (fun b _ e => by cases e), ⟨by omega, by omega, ?_⟩, ?_⟩, ?_⟩
  · refine h2.same ?_
    rw [hW, b3.block _ (by omega)]
  · intro x hx
    simp at hx
    subst hx
    exact arow_nil _ _
  · rw [hW]
    have := b3.size
    omega
  · intro x hx
    simp at hx
    subst hx
    exact ⟨⟨fun a ha => by simp at ha, by show (0 : Nat) < _; omega⟩, by simp⟩
  · rw [hW]
    exact b1.trans ((b2.mono (by omega)).trans (b3.mono (by omega)))

theorem check_good {l : List Ent} (h : (checkE l).2 = 0) {j : Nat} (hj : j < l.length) : wordT (ent l j).word = true := by
  have hb : badE l j = 0 := by
    unfold checkE at h
    cases hf : (List.range l.length).find? (fun k => badE l k != 0) with
    | none =>
      rw [List.find?_eq_none] at hf
      have := hf j (List.mem_range.2 hj)
      simpa using this
    | some k =>
      rw [hf] at h
      have := List.find?_some hf
      simp at this h
      exact absurd h this
  unfold badE at hb
  cases hw : wordT (ent l j).word with
  | true => rfl
  | false => rw [if_pos hw] at hb; cases hb

/-- What Build leaves. -/
def Built (w : World) (l : List Ent) (e : Ending) (w' : World) : Prop :=
  ∃ vs, e = .returned (.tuple #[.agg #[vs, .int .u64 ((buildT l).2 : Int)], .int .i64 0]) ∧ Sts w' vs (buildT l).1 ∧ (∀ s ∈ (buildT l).1, s.ok ∧ s.arcs.length ≤ 300) ∧ (buildT l).1.length ≤ 100000 ∧ (buildT l).2 < 18446744073709551616 ∧ Below w.heap.size w w'

set_option maxHeartbeats 4000000 in
set_option maxRecDepth 100000 in
theorem build_bad (l : List Ent) (v : Value) (w : World) (hv : Ents w v l) (hs : ShortE l) (hlen : l.length ≤ 250) (hbad : (checkE l).2 ≠ 0) :
    Calls Try.prog 34 #[v] w fun e w' => e = .returned (.tuple #[.agg #[.slice none 0 0, .int .u64 0], .int .i64 ((checkE l).2 : Nat)]) ∧ Below w.heap.size w w' := by
  have hb0 := below_alloc w (.cells #[.slice none 0 0, .int .u64 0] 65)
  have Q := Lib.hid (entCheck_any l v _ (hv.below hb0) hs (by omega))
  obtain ⟨n, hn⟩ : ∃ n, n = (checkE l).2 := ⟨_, rfl⟩
  obtain ⟨z, hz⟩ : ∃ z, z = (checkE l).1 := ⟨_, rfl⟩
  rw [← hn] at hbad
  rw [← hn, ← hz] at Q
  rw [← hn]
  clear hn hz hv hs
  have e1 : ((n : Int) == 0) = false := by simp; omega
  have e2 : ¬ ((n : Int) = 0) := by omega
  have hbx := heap_alloc_new w (.cells #[.slice none 0 0, .int .u64 0] 65)
  go_enter Try.func34, Try.ntmps34
  go_wp2_with (go_at_call 69
               (with_reducible refine Q.out.mono ?_)
               go_loud (
               rintro e' w1 ⟨rfl, hb1⟩
               have hx1 := (hb1.block w.heap.size (by simp)).trans hbx
               have r0 : w1.cell? ⟨w.heap.size, 0, none⟩ = some (.slice none 0 0) := by rw [cell_of_row w1 _ 0 _ _ _ hx1]; rfl
               have r1 : w1.cell? ⟨w.heap.size, 1, none⟩ = some (.int .u64 0) := by rw [cell_of_row w1 _ 1 _ _ _ hx1]; rfl
               have rf : ∀ o, w1.frozen? ⟨w.heap.size, o, none⟩ = false := fun o => by simp [World.frozen?, hx1]
               have HB1 := Lib.hid hb1
               clear hb1 hx1))
  exact bodyPost_ret (v := .tuple #[.agg #[.slice none 0 0, .int .u64 0], .int .i64 (n : Int)]) (by simp [results, Try.results34, go_sem, r0, r1]) rfl ⟨rfl, ((hb0.trans (HB1.out.mono (by simp))).setCell (Nat.le_refl _) _).setCell (Nat.le_refl _) _⟩

set_option maxHeartbeats 4000000 in
set_option maxRecDepth 100000 in
theorem build_none (v : Value) (w : World) (hv : Ents w v []) :
    Calls Try.prog 34 #[v] w (Built w []) := by
  have hb0 := below_alloc w (.cells #[.slice none 0 0, .int .u64 0] 65)
  obtain ⟨ad, cp, rfl, hc⟩ := hv
  have hv : Ents w (.slice ad 0 cp) [] := ⟨ad, cp, rfl, hc⟩
  have Q : Hid (Calls Try.prog 69 #[.slice ad 0 cp] (w.alloc (.cells #[.slice none 0 0, .int .u64 0] 65)) fun e w' => e = .returned (.tuple #[.int .i64 (-1), .int .i64 0]) ∧ RowKit.Below (w.alloc (.cells #[.slice none 0 0, .int .u64 0] 65)).heap.size (w.alloc (.cells #[.slice none 0 0, .int .u64 0] 65)) w') := Lib.hid (entCheck_any [] _ _ (hv.below hb0) (fun e he => by simp at he) (by simp))
  clear hc hv
  have hbx := heap_alloc_new w (.cells #[.slice none 0 0, .int .u64 0] 65)
  have mk := make_one
  go_enter Try.func34, Try.ntmps34
  go_wp2_with (go_at_call 69
               (with_reducible refine Q.out.mono ?_)
               go_loud (
               rintro e' w1 ⟨rfl, hb1⟩
               have hx1 := ((below_alloc w1 (.cells #[.slice none 0 0, .bool false, .int .u64 0] 91)).block w.heap.size (by have := hb1.size; simp at this; omega)).trans ((hb1.block w.heap.size (by simp)).trans hbx)
               have r0 : (w1.alloc (.cells #[.slice none 0 0, .bool false, .int .u64 0] 91)).cell? ⟨w.heap.size, 0, none⟩ = some (.slice none 0 0) := by rw [cell_of_row _ _ 0 _ _ _ hx1]; rfl
               have r1 : (w1.alloc (.cells #[.slice none 0 0, .bool false, .int .u64 0] 91)).cell? ⟨w.heap.size, 1, none⟩ = some (.int .u64 0) := by rw [cell_of_row _ _ 1 _ _ _ hx1]; rfl
               have rf : ∀ o, (w1.alloc (.cells #[.slice none 0 0, .bool false, .int .u64 0] 91)).frozen? ⟨w.heap.size, o, none⟩ = false := fun o => by unfold World.frozen?; simp only [hx1]; simp
               have HB1 := Lib.hid hb1
               clear hb1 hx1))
  have hk : Below w1.heap.size (w1.alloc (.cells #[.slice none 0 0, .bool false, .int .u64 0] 91)) (w1.alloc (.cells #[.slice none 0 0, .bool false, .int .u64 0] 91)) := Below.refl _ _
  have hg1 := grown_setCell (w1.alloc (.cells #[.slice none 0 0, .bool false, .int .u64 0] 91)) w.heap.size 0 (.slice (some ⟨w1.heap.size, 0, none⟩) 1 1)
  have hg2 := grown_setCell ((w1.alloc (.cells #[.slice none 0 0, .bool false, .int .u64 0] 91)).setCell ⟨w.heap.size, 0, none⟩ (.slice (some ⟨w1.heap.size, 0, none⟩) 1 1)) w.heap.size 1 (.int .u64 0)
  have hz := HB1.out.size
  simp at hz
  have h9 : ((((w1.alloc (.cells #[.slice none 0 0, .bool false, .int .u64 0] 91)).setCell ⟨w.heap.size, 0, none⟩ (.slice (some ⟨w1.heap.size, 0, none⟩) 1 1)).setCell ⟨w.heap.size, 1, none⟩ (.int .u64 0)).heap[w1.heap.size]?) = some (.cells #[.slice none 0 0, .bool false, .int .u64 0] 91 (0, 0)) := by
    have h7 : (w1.alloc (.cells #[.slice none 0 0, .bool false, .int .u64 0] 91)).heap.size = w1.heap.size + 1 := by simp
    have h6 := hg1.size
    rw [hg2.block _ (by omega) (fun e => by have := Option.some.inj e; omega), hg1.block _ (by omega) (fun e => by have := Option.some.inj e; omega)]
    exact heap_alloc_new w1 _
  refine bodyPost_ret (v := .tuple #[.agg #[.slice (some ⟨w1.heap.size, 0, none⟩) 1 1, .int .u64 0], .int .i64 0]) (by simp [results, Try.results34, go_sem, r0, r1]) rfl ⟨.slice (some ⟨w1.heap.size, 0, none⟩) 1 1, rfl, ?_, ?_, by decide, by decide, ?_⟩
  · exact sts_of (base := 0) (srow_new (fz := (0, 0)) h9 (Nat.zero_le _)) (fun x hx => by rw [List.mem_singleton.1 hx]; exact arow_nil _ _)
  · intro x hx
    have : x = ⟨[], false, 0⟩ := List.mem_singleton.1 hx
    subst this
    exact ⟨⟨fun a ha => by simp at ha, by show (0 : Nat) < _; omega⟩, by simp⟩
  · refine ((Below.trans (hb0.trans (HB1.out.mono (by simp))) ((below_alloc w1 _).mono (by omega))).setCell (Nat.le_refl _) _).setCell (Nat.le_refl _) _

set_option maxHeartbeats 4000000 in
set_option maxRecDepth 100000 in
theorem build_good (l : List Ent) (v : Value) (w : World) (hv : Ents w v l) (hs : ShortE l) (hlen : l.length ≤ 250) (hgood : (checkE l).2 = 0) (h0 : l ≠ []) (hw : ∀ e ∈ l, e.weight < 4294967296) :
    Calls Try.prog 34 #[v] w (Built w l) := by
  obtain ⟨ad, cp, rfl, hc⟩ := hv
  have hv : Ents w (.slice ad l.length cp) l := ⟨ad, cp, rfl, hc⟩
  have hl0 : 0 < l.length := List.length_pos_iff.2 h0
  have hb0 := below_alloc w (.cells #[.slice none 0 0, .int .u64 0] 65)
  obtain ⟨z, hz⟩ : ∃ z, z = (checkE l).1 := ⟨_, rfl⟩
  have Q : Hid (Calls Try.prog 69 #[.slice ad l.length cp] (w.alloc (.cells #[.slice none 0 0, .int .u64 0] 65)) fun e w' => e = .returned (.tuple #[.int .i64 z, .int .i64 0]) ∧ RowKit.Below (w.alloc (.cells #[.slice none 0 0, .int .u64 0] 65)).heap.size (w.alloc (.cells #[.slice none 0 0, .int .u64 0] 65)) w') := Lib.hid (by
    have := entCheck_any l _ _ (hv.below hb0) hs (by omega)
    rw [hgood, ← hz] at this
    exact this)
  have HV := Lib.hid hv
  have HG := Lib.hid hgood
  have HB0 := Lib.hid hb0
  have HW := Lib.hid hw
  have hbx := heap_alloc_new w (.cells #[.slice none 0 0, .int .u64 0] 65)
  have e1 : ((l.length : Int) == 0) = false := by simp; omega
  have e2 : ¬ ((l.length : Int) = 0) := by omega
  have HMK : Hid (∀ W, (Instr.makeSlice 62 (.int .i64 1) (.int .i64 1)).run Try.prog W = .ok (.slice (some ⟨W.heap.size, 0, none⟩) 1 1) (W.alloc (.cells #[.slice none 0 0, .bool false, .int .u64 0] 91))) := Lib.hid make_one
  have mk := HMK.out
  have hmm := @run_makeMap Try.prog
  clear hv hs hc hz hgood hb0 hw h0
  go_enter Try.func34, Try.ntmps34
  go_wp2_with (go_at_call 69
               (with_reducible refine Q.out.mono ?_)
               go_loud (
               rintro e' w1 ⟨rfl, hb1⟩
               have HX1 := Lib.hid ((hb1.block w.heap.size (by simp)).trans hbx)
               have HB1 := Lib.hid hb1
               clear hb1))
  obtain ⟨W4, hW4⟩ : ∃ W4, W4 = ((w1.alloc (.cells #[.slice none 0 0, .bool false, .int .u64 0] 91)).alloc (.map #[] 0)).alloc (.cells #[.string ⟨#[]⟩, .slice (some ⟨w1.heap.size, 0, none⟩) 1 1, .slice none 0 0, .map (some (w1.heap.size + 1))] 123) := ⟨_, rfl⟩
  have HM4 := Lib.hid (mk_start hW4)
  rw [← hW4]
  clear hW4 mk hmm
  obtain ⟨base, hbase⟩ : ∃ base, base = w1.heap.size := ⟨_, rfl⟩
  obtain ⟨mb, hmb⟩ : ∃ mb, mb = w1.heap.size + 1 + 1 := ⟨_, rfl⟩
  obtain ⟨mm, hmm⟩ : ∃ mm, mm = w1.heap.size + 1 := ⟨_, rfl⟩
  rw [← hmb, ← hmm, ← hbase] at HM4
  have HWB : Hid (w.heap.size < base ∧ Below w.heap.size w W4 ∧ W4.heap[w.heap.size]? = some (.cells #[.slice none 0 0, .int .u64 0] 65 (0, 0))) := Lib.hid (by
    have hz := HB1.out.size
    simp at hz
    refine ⟨by omega, (HB0.out.trans (HB1.out.mono (by simp))).trans (HM4.out.2.mono (by omega)), ?_⟩
    rw [HM4.out.2.block _ (by omega)]
    exact HX1.out)
  rw [← hmb, ← hmm, ← hbase]
  clear hmb hmm hbase
  go_loopw [28] (fun s28 wr => ∃ (i : Nat) (lw : ByteArray) (xo xs : List (Value × DSt)) (vo vs : Value) (g : List UInt8 → Nat), i ≤ l.length ∧ s28 = .int .i64 i ∧ Hid (Mk wr base mb lw xo xs vo vs mm g ∧ mkO lw xo xs = (l.take i).foldl DMak.add DMak.start ∧ (xo.length = lw.size + 1 ∧ lw.size ≤ 255 ∧ xs.length ≤ 256 * i) ∧ (∀ y ∈ xo.dropLast, y.2.arcs ≠ []) ∧ (∀ y ∈ xo, y.2.arcs.length ≤ i) ∧ Below base W4 wr)) (fun s28 _ => l.length - (intOf s28).toNat)
  case atStart => exact ⟨0, ⟨#[]⟩, _, _, _, _, _, Nat.zero_le _, rfl, Lib.hid ⟨HM4.out.1, rfl, ⟨rfl, Nat.zero_le _, Nat.zero_le _⟩, by simp, by intro y hy; simp at hy; subst hy; exact Nat.le_refl _, Below.refl _ _⟩⟩
  case round =>
    obtain ⟨i, lw, xo, xs, vo, vs, g, hi, rfl, HR⟩ := hrel
    by_cases hlt : i < l.length
    · have e0 : decide ((i : Int) < (l.length : Int)) = true := by simp; omega
      have i1 : (i : Int) < (l.length : Int) := by omega
      have hvr : Ents wr (.slice ad l.length cp) l := HV.out.below (HWB.out.2.1.trans (HR.out.2.2.2.2.2.mono (Nat.le_of_lt HWB.out.1)))
      obtain ⟨ad', c', hv', hc'⟩ := hvr
      cases hv'
      obtain ⟨b, o, rfl, hE⟩ := hc' i hlt
      obtain ⟨e, he⟩ : ∃ e, e = ent l i := ⟨_, rfl⟩
      rw [← he] at hE
      have c0 := hE.1
      have c1 := hE.2.1
      have c2 := hE.2.2
      have hwz : e.word.size ≤ 255 := by rw [he]; exact (wordT_true (check_good HG.out hlt)).2
      have hww : e.weight < 4294967296 := by rw [he]; exact HW.out _ (ent_mem hlt)
      have HE := Lib.hid he
      have hba := below_alloc wr (.cells #[.string e.word, .int .u32 (e.weight : Int), .bool e.gone] 33)
      have QA := Lib.hid (add_any (K := i) (e := e) (HR.out.1.below hba) HR.out.2.2.1.1 HR.out.2.2.1.2.1 hwz hww (by have := HR.out.2.2.1.2.2; omega) HR.out.2.2.2.1 HR.out.2.2.2.2.1 (by omega))
      have HBA := Lib.hid hba
      clear hE hc' he hba hwz hww
      go_wp2_with (go_at_call 70
                   (with_reducible refine QA.out.mono ?_)
                   go_loud (
                   rintro e' w5 ⟨rfl, h5⟩
                   have H5 := Lib.hid h5
                   clear h5))
      obtain ⟨xo5, xs5, vo5, vs5, g5, hm5, hl5, hx5, he5, hn5, hk5, hb5, ht5⟩ := H5.out
      refine ⟨⟨i + 1, e.word, xo5, xs5, vo5, vs5, g5, by omega, by go_num, Lib.hid ⟨hm5, ?_, ⟨hl5, ?_, ?_⟩, hn5, hk5, HR.out.2.2.2.2.2.trans ((HBA.out.mono HR.out.1.low.2.2).trans hb5)⟩⟩, by simp [intOf]; omega⟩
      · rw [he5, HR.out.2.1, List.take_add_one, List.getElem?_eq_getElem hlt, List.foldl_append, HE.out, ent_lt hlt]
        rfl
      · rw [HE.out]; exact (wordT_true (check_good HG.out hlt)).2
      · have := HR.out.2.2.1.2.2
        have := HR.out.2.2.1.1
        have := HR.out.2.2.1.2.1
        omega
    · have e0 : decide ((i : Int) < (l.length : Int)) = false := by simp; omega
      have hie : i = l.length := by omega
      subst hie
      have QW := Lib.hid (whole_any (K := l.length) HR.out.1 (by have := HR.out.2.2.1; omega) (by intro h0; have := HR.out.2.2.1.1; rw [h0] at this; simp at this) (by have := HR.out.2.2.1.2.2; omega) HR.out.2.2.2.1 HR.out.2.2.2.2.1)
      go_wp2_with (go_at_call 71
                   (with_reducible refine QW.out.mono ?_)
                   go_loud (
                   rintro e' w6 ⟨vs6, xs6, rfl, hs6, he6, ha6, ho6, hn6, hb6⟩
                   have hx6 : w6.heap[w.heap.size]? = some (.cells #[.slice none 0 0, .int .u64 0] 65 (0, 0)) := by
                     rw [hb6.block _ HWB.out.1, HR.out.2.2.2.2.2.block _ HWB.out.1]
                     exact HWB.out.2.2
                   have r0 : w6.cell? ⟨w.heap.size, 0, none⟩ = some (.slice none 0 0) := by rw [cell_of_row w6 _ 0 _ _ _ hx6]; rfl
                   have r1 : w6.cell? ⟨w.heap.size, 1, none⟩ = some (.int .u64 0) := by rw [cell_of_row w6 _ 1 _ _ _ hx6]; rfl
                   have rf : ∀ o, w6.frozen? ⟨w.heap.size, o, none⟩ = false := fun o => by simp [World.frozen?, hx6]
                   obtain ⟨ad6, cp6, rfl⟩ := hs6.form
                   have H6 := Lib.hid (And.intro hs6 (And.intro he6 (And.intro ha6 (And.intro ho6 (And.intro hn6 hb6)))))
                   clear hs6 he6 ha6 ho6 hn6 hb6 hx6))
      have hbt : buildT l = (mkO lw xo xs).whole := by
        unfold buildT
        rw [HR.out.2.1, List.take_length, if_neg (by simp; intro h; rw [h] at hl0; simp at hl0)]
      have hg1 := grown_setCell w6 w.heap.size 0 (.slice ad6 xs6.length cp6)
      have hg2 := grown_setCell (w6.setCell ⟨w.heap.size, 0, none⟩ (.slice ad6 xs6.length cp6)) w.heap.size 1 (.int .u64 ((mkO lw xo xs).whole.2 : Int))
      have hk9 : Kp (fun b => b = w.heap.size) w6 ((w6.setCell ⟨w.heap.size, 0, none⟩ (.slice ad6 xs6.length cp6)).setCell ⟨w.heap.size, 1, none⟩ (.int .u64 ((mkO lw xo xs).whole.2 : Int))) := (Kp.grown hg1 (fun b e => (Option.some.inj e).symm)).trans (Kp.grown (M := fun b => b = w.heap.size) hg2 (fun b e => (Option.some.inj e).symm)) (fun b e => .inl e)
      obtain ⟨hs6, he6, ha6, ho6, hn6, hb6⟩ := H6.out
      have kb : ∀ {size n : Nat} {e : TypeId} {v : Value} {ys : List Value}, w6.ownsRow base e size v n ys → ((w6.setCell ⟨w.heap.size, 0, none⟩ (.slice ad6 xs6.length cp6)).setCell ⟨w.heap.size, 1, none⟩ (.int .u64 ((mkO lw xo xs).whole.2 : Int))).ownsRow base e size v n ys := fun h => owns_same h fun b hb => hk9.block b (h.lt b hb).2 (fun e => by have := (h.lt b hb).1; have := HWB.out.1; omega)
      refine bodyPost_ret (v := .tuple #[.agg #[.slice ad6 xs6.length cp6, .int .u64 ((mkO lw xo xs).whole.2 : Int)], .int .i64 0]) (by simp [results, Try.results34, go_sem, r0, r1]) rfl ⟨.slice ad6 xs6.length cp6, by rw [hbt], ?_, ?_, ?_, ?_, ?_⟩
      · rw [hbt, ← he6]
        exact sts_of (kb hs6) (fun x hx => kb (ha6 x hx))
      · rw [hbt, ← he6]
        intro s hs
        obtain ⟨x, hx, rfl⟩ := List.mem_map.1 hs
        exact ho6 x hx
      · rw [hbt, ← he6, List.length_map]
        exact hn6
      · rw [hbt]
        exact least_lt _
      · exact (((HWB.out.2.1.trans (HR.out.2.2.2.2.2.mono (Nat.le_of_lt HWB.out.1))).trans (hb6.mono (Nat.le_of_lt HWB.out.1))).setCell (Nat.le_refl _) _).setCell (Nat.le_refl _) _

/-- The transducer of any list: its error, or what is built. -/
theorem build_any (l : List Ent) (v : Value) (w : World) (hv : Ents w v l) (hs : ShortE l) (hlen : l.length ≤ 250) (hgood : (checkE l).2 = 0) (hw : ∀ e ∈ l, e.weight < 4294967296) :
    Calls Try.prog 34 #[v] w (Built w l) := by
  by_cases h0 : l = []
  · subst h0
    exact build_none v w hv
  · exact build_good l v w hv hs hlen hgood h0 hw
end Go.Proofs.Ytmfchlbafpkgaaa
namespace Go.Proofs.Ytmfchlbafpkgaaa
open Go.RowKit Go.Shelf

def intsC (l : List Nat) : List Value := l.map fun n : Nat => Value.int .i64 (n : Int)
theorem iInt3 : (Try.prog.info? 3).map (fun i => (i.zero, i.size, i.bytes)) = some (some (.int .i64 0), 1, 8) := by kernel_rfl
theorem wpList_append_i64 {w : World} {ops : Array Oper} {rest : List Oper} {o : Oper} {a : Act} {Q : Exit → Act → World → Prop} (hgd : o.guard = none) (s x : Operand)
    (hop : o.op = Op.call { callee := Callee.builtin Builtin.append, args := #[s, x], argTypes := #[136, 136] }) (ht : o.type = 136) (base : Nat) (v : Value) (n : Nat) (fs : List Value) (ad : Addr) (c : Nat) (b : Int)
    (hs : a.eval s = v) (hx : a.eval x = .slice (some ad) 1 c) (hc : w.cell? ad = some (.int .i64 b)) (hv : w.ownsRow base 3 1 v n fs) (hlen : n ≤ 1000000) (hbw : base ≤ w.heap.size)
    (h : ∀ v' w', w'.ownsRow base 3 1 v' (n + 1) (fs ++ [.int .i64 b]) → w.grownBy w' v.ownBlock → (v'.ownBlock = v.ownBlock ∨ v'.ownBlock = some w.heap.size) → wpList Try.prog ops Q rest (a.put o.dst v') w') : wpList Try.prog ops Q (o :: rest) a w := by
  obtain ⟨i0, hi, hz0, hz1, hz2⟩ := info_parts iInt3
  obtain ⟨v', w1, h1, h2, h3, _, h5⟩ := run_append_own_at (P := Try.prog) w base 136 136 3 i0 _ 1 8 Try.underlying136 hi hz0 hz1 hz2 rfl (by decide) v n fs hv ad 1 c [.int .i64 b] rfl
    (by
      intro j u hj
      match j, hj with
      | 0, hj => simp at hj; subst hj; exact hc) (by simp [Value.oneCell']) (by unfold maxLen; omega) (by omega) hbw
  refine wpList_plain hgd fun _ hK => ?_
  unfold Oper.wp execOp
  simp only [hop, ht, resolve, invoke, builtin, Sem.run_bind, Sem.run_pure, Result.andThen_ok, List.map_toArray, List.map_cons, List.map_nil, hs, hx, h1]
  exact hK _ _ (h v' w1 h2 h3 h5)

/-- The way, its last state first: each later one is less than all before it. -/
def okW (n : Nat) : List Nat → Prop
  | [] => True
  | x :: r => r.length + 1 + x ≤ n ∧ okW n r
theorem okW_mem {n : Nat} : ∀ {l : List Nat}, okW n l → ∀ y ∈ l, y < n
  | [], _, y, h => by simp at h
  | x :: r, ⟨h1, h2⟩, y, hy => by
    rcases List.mem_cons.1 hy with rfl | hy
    · omega
    · exact okW_mem h2 y hy

/-- The way in memory. -/
def WayR (w : World) (base : Nat) (v : Value) (way : List Nat) : Prop := w.ownsRow base 3 1 v way.length (intsC way.reverse)

/-- The way's last state and one, or 0: as it stands in memory. -/
def topOf (v : Value) (w : World) : Nat :=
  match v with
  | .slice (some a) (k + 1) _ => match w.cell? (a.add k) with
    | some (.int _ q) => q.toNat + 1
    | _ => 0
  | _ => 0
theorem WayR.nil {w : World} {base : Nat} {v : Value} (h : WayR w base v []) : (∃ ad c, v = .slice ad 0 c) ∧ topOf v w = 0 := by
  rcases h.2 with ⟨rfl, _⟩ | ⟨g, cap, cur, rfl, _⟩
  · exact ⟨⟨_, _, rfl⟩, rfl⟩
  · exact ⟨⟨_, _, rfl⟩, rfl⟩
theorem WayR.cons {w : World} {base : Nat} {v : Value} {x : Nat} {r : List Nat} (h : WayR w base v (x :: r)) : ∃ g c, v = .slice (some ⟨g, 0, none⟩) (r.length + 1) c ∧ w.cell? ⟨g, r.length, none⟩ = some (.int .i64 (x : Int)) ∧ topOf v w = x + 1 := by
  rcases id h.2 with ⟨_, h0⟩ | ⟨g, cap, cur, rfl, _⟩
  · simp at h0
  · have hc : w.cell? ⟨g, r.length, none⟩ = some (.int .i64 (x : Int)) := by
      have := World.ownsRow.cellAt h r.length (by simp)
      rw [this]
      simp [intsC]
    refine ⟨g, cap, rfl, hc, ?_⟩
    show (match w.cell? ((⟨g, 0, none⟩ : Addr).add r.length) with
      | some (.int _ q) => q.toNat + 1
      | _ => 0) = _
    rw [Addr.add_lit, Nat.zero_add, hc]
    simp
theorem topM {w : World} {base : Nat} {v : Value} {n d : Nat} {way : List Nat} (h : WayR w base v way) : (n - d) * (n + 1) + topOf v w = ordM n way d := by
  cases way with
  | nil => rw [h.nil.2]; rfl
  | cons x r => obtain ⟨g, c, -, -, e⟩ := h.cons; rw [e]; rfl
theorem WayR.below {w w' : World} {base : Nat} {v : Value} {way : List Nat} (h : WayR w base v way) (hb : Below w.heap.size w w') : WayR w' base v way := owns_same h fun g hg => hb.block g (h.lt g hg).2
/-- The way without its last state. -/
theorem WayR.pop {w : World} {base g c x : Nat} {r : List Nat} (h : WayR w base (.slice (some ⟨g, 0, none⟩) (r.length + 1) c) (x :: r)) : WayR w base (.slice (some ⟨g, 0, none⟩) r.length c) r := by
  rcases h.2 with ⟨h', _⟩ | ⟨g', cap, cur, h', hb, hg, hn, hm, hs, ht⟩
  · cases h'
  · cases h'
    refine ⟨by simp [intsC], .inr ⟨g, c, cur, rfl, hb, hg, by simp at hn; omega, hm, hs, ?_⟩⟩
    have e : (intsC (x :: r).reverse).take r.length = intsC r.reverse := by simp [intsC]
    rw [← e, ← ht, List.take_take]
    congr 1
    simp

theorem nextA_none {l : List DSt} {x d : Nat} (h : ∀ i, i < (stAt l x).arcs.length → ¬ (d : Int) ≤ (arcAt (stAt l x).arcs i).to) : nextA l x d = none := by
  unfold nextA
  rw [List.find?_eq_none]
  intro a ha
  obtain ⟨i, hi, rfl⟩ := List.getElem_of_mem ha
  have := h i hi
  rw [arcAt_lt hi] at this
  simpa using this
theorem nextA_some {l : List DSt} {x d k : Nat} (hk : k < (stAt l x).arcs.length) (h : ∀ i, i < k → ¬ (d : Int) ≤ (arcAt (stAt l x).arcs i).to) (hd : (d : Int) ≤ (arcAt (stAt l x).arcs k).to) : nextA l x d = some (arcAt (stAt l x).arcs k) := by
  unfold nextA
  rw [List.find?_eq_some_iff_getElem]
  refine ⟨by simpa using hd, k, hk, (arcAt_lt hk).symm, fun j hj => ?_⟩
  have := h j hj
  rw [arcAt_lt (by omega)] at this
  simpa using this

set_option maxHeartbeats 4000000 in
set_option maxRecDepth 100000 in
theorem ordered_any {w : World} {v : Value} {l : List DSt} (h : Sts w v l) (hl : l.length ≤ 100000) (h0 : l ≠ []) (ha : ∀ s ∈ l, s.arcs.length ≤ 100000) (hto : ∀ i, i < l.length → ∀ a ∈ (stAt l i).arcs, 0 ≤ a.to ∧ a.to < (i : Int)) :
    Calls Try.prog 78 #[v] w fun e w' => e = .returned (.bool (orderedT l)) ∧ Below w.heap.size w w' := by
  obtain ⟨ad, c, rfl, hc⟩ := h
  have hpos : 0 < l.length := List.length_pos_iff.2 h0
  have HC : Hid (∀ W, Below w.heap.size w W → ∀ i, i < l.length → ∃ b o, ad = some ⟨b, o, none⟩ ∧ StIn W b (o + i * 3) (stAt l i)) := Lib.hid fun W hb i hi => by
    obtain ⟨b, o, e, hE⟩ := hc i hi
    exact ⟨b, o, e, hE.below hb⟩
  have HA := Lib.hid (And.intro ha hto)
  obtain ⟨m, hm⟩ : ∃ m, l.length = m + 1 := ⟨l.length - 1, by omega⟩
  have e1 : IntKind.i64.wrap ((l.length : Int) - 1) = (m : Int) := by rw [IntWalk.i64_in _ (by omega)]; omega
  have HMM := Lib.hid hm
  clear hm
  clear hc ha hto h0
  go_enter Try.func78, Try.ntmps78
  go_wp2
  go_step3
  go_wp2
  go_step3
  go_wp2
  go_loopw [3, 4] (fun s3 s4 wr => ∃ (way : List Nat) (d f : Nat) (v3 : Value), s3 = v3 ∧ s4 = .int .i64 d ∧ way.length ≤ l.length ∧ Hid (okW l.length way ∧ WayR wr w.heap.size v3 way ∧ Below w.heap.size w wr ∧ ordGo l (ordF l.length) [l.length - 1] 0 = ordGo l f way d ∧ ordM l.length way d ≤ f)) (fun s3 s4 wr => (l.length - (intOf s4).toNat) * (l.length + 1) + topOf s3 wr)
  case atStart =>
    refine ⟨[m], 0, ordF l.length, _, rfl, rfl, by simp; omega, Lib.hid ⟨⟨by have := HMM.out; simp; omega, trivial⟩, ?_, (Below.refl _ w).alloc (Nat.le_refl _) _, by rw [HMM.out]; rfl, ?_⟩⟩
    · exact World.ownsRow_lit w #[.int .i64 (m : Int)] 1 (Nat.le_refl _) (by decide) rfl
    · have := HMM.out
      simp only [ordM, ordF]
      have h1 : (l.length + 1) * (l.length + 2) = l.length * (l.length + 1) + 2 * (l.length + 1) := by
        rw [Nat.mul_add (l.length + 1) l.length 2, Nat.mul_comm (l.length + 1) l.length, Nat.mul_comm (l.length + 1) 2]
      have h2 : (l.length - 0) * (l.length + 1) = l.length * (l.length + 1) := by rw [Nat.sub_zero]
      omega
  case round =>
    obtain ⟨way, d, f, v3, rfl, rfl, hwl, HR⟩ := hrel
    obtain ⟨wo, hwo⟩ : ∃ wo, wo = wr := ⟨_, rfl⟩
    subst hwo
    cases way with
    | nil =>
      obtain ⟨⟨adw, cw, rfl⟩, -⟩ := HR.out.2.1.nil
      have HF : Hid (orderedT l = decide (d = l.length)) := Lib.hid (by unfold orderedT; rw [HR.out.2.2.2.1, ordGo_end])
      have HU : Hid ((((d : Nat) : Int) == (l.length : Int)) = orderedT l) := Lib.hid (by
        rw [HF.out, Bool.eq_iff_iff]
        simp
        omega)
      have HN := Lib.hid HR.out.2.2.1
      go_wp2
      simp only [Exit.noGoto]
      go_ret
      exact ⟨by rw [← HU.out]; rfl, HN.out⟩
    | cons x r =>
      obtain ⟨g, cw, rfl, kc, htop⟩ := HR.out.2.1.cons
      obtain ⟨hx1, hx2⟩ := HR.out.1
      have hxl : x < l.length := by omega
      obtain ⟨f', rfl⟩ : ∃ f', f = f' + 1 := ⟨f - 1, by have := HR.out.2.2.2.2; have := ordM_pos (n := l.length) (x := x) (d := d) (r := r); omega⟩
      obtain ⟨b, o, rfl, vx, h1, h2, h3, h4⟩ := HC.out wo HR.out.2.2.1 x hxl
      obtain ⟨ad2, c2, rfl, hA⟩ := h4
      have HAR := Lib.hid (show ∀ W, Below wo.heap.size wo W → ∀ i, i < (stAt l x).arcs.length → ∃ b o, ad2 = some ⟨b, o, none⟩ ∧ ArcIn W b (o + i * 3) (arcAt (stAt l x).arcs i) from fun W hb i hi => by
        obtain ⟨b, o, e, hE⟩ := hA i hi
        exact ⟨b, o, e, hE.later hb⟩)
      have ex1 : IntKind.i64.wrap (((r.length + 1 : Nat) : Int) - 1) = (r.length : Int) := by rw [IntWalk.i64_in _ (by omega)]; omega
      have ix1 : (r.length : Int) < ((r.length + 1 : Nat) : Int) := by omega
      have ix2 : (x : Int) < (l.length : Int) := by omega
      have al := HA.out.1 (stAt l x) (by rw [stAt_lt hxl]; exact List.getElem_mem hxl)
      clear hA h2 h3
      go_wp2
      go_loopw [27, 3] (fun s27 s3 wi => ∃ k : Nat, k ≤ (stAt l x).arcs.length ∧ s27 = .int .i64 k ∧ s3 = .slice (some ⟨g, 0, none⟩) (r.length + 1) cw ∧ Hid ((∀ i, i < k → ¬ (d : Int) ≤ (arcAt (stAt l x).arcs i).to) ∧ Below wo.heap.size wo wi)) (fun s27 _ _ => (stAt l x).arcs.length - (intOf s27).toNat)
      case atStart => exact ⟨0, Nat.zero_le _, rfl, rfl, Lib.hid ⟨fun i hi => absurd hi (Nat.not_lt_zero i), Below.refl _ _⟩⟩
      case round =>
        obtain ⟨k, hk, rfl, rfl, HI⟩ := hrel
        have hbwr := HR.out.2.2.1.trans (HI.out.2.mono HR.out.2.2.1.size)
        have HBR := Lib.hid hbwr
        clear hbwr
        by_cases hlt : k < (stAt l x).arcs.length
        · obtain ⟨b2, o2, rfl, a1, a2, a3⟩ := HAR.out wr HI.out.2 k hlt
          obtain ⟨y, hy⟩ : ∃ y, arcAt (stAt l x).arcs k = y := ⟨_, rfl⟩
          rw [hy] at a1 a2 a3
          have HY := Lib.hid hy
          clear hy
          by_cases hto : (d : Int) ≤ y.to
          · have dto : decide ((d : Int) ≤ y.to) = true := decide_eq_true hto
            have HW := Lib.hid (HR.out.2.1.below HI.out.2)
            have hbs : w.heap.size ≤ ((wr.alloc (.cells #[.int .u8 (y.b : Int), .int .u64 (y.out : Int), .int .i64 y.to] 93)).alloc (.cells #[.int .i64 y.to] 3)).heap.size := by
              have := HBR.out.size
              simp
              omega
            have HBS := Lib.hid hbs
            clear hbs
            go_wp2_with (at_builtin
                         refine wpList_append_i64 rfl (.tmp 35) (.tmp 38) rfl rfl w.heap.size (.slice (some ⟨g, 0, none⟩) (r.length + 1) cw) _ _ ⟨wr.heap.size + 1, 0, none⟩ 1 y.to rfl rfl (by simp) ((HW.out.alloc _).alloc _) (by simp; omega) HBS.out (fun v' w' hown hg _ => ?_)
                         have HO := Lib.hid (And.intro hown hg)
                         clear hown hg)
            have hy0 := HA.out.2 x hxl y (by rw [← HY.out, arcAt_lt hlt]; exact List.getElem_mem hlt)
            obtain ⟨yn, hyn⟩ : ∃ yn : Nat, y.to = (yn : Int) := ⟨y.to.toNat, by omega⟩
            have hW' : WayR w' w.heap.size v' (yn :: x :: r) := by
              have h := HO.out.1
              unfold WayR
              rw [show intsC (yn :: x :: r).reverse = intsC (x :: r).reverse ++ [.int .i64 y.to] by simp [intsC, hyn]]
              exact h
            have hz := HBR.out.size
            have hB' : Below w.heap.size w w' := by
              refine Below.grown ?_ HO.out.2 HBS.out (fun b hb => (HW.out.lt b hb).1)
              exact (HBR.out.alloc hz _).alloc (by simp; omega) _
            have hnx := nextA_some hlt HI.out.1 (by rw [HY.out]; exact hto)
            rw [HY.out] at hnx
            have hgo := HR.out.2.2.2.1
            rw [ordGo_push hnx, show y.to.toNat = yn by omega] at hgo
            have hM := ordM_push (n := l.length) (x := x) (y := yn) (d := d) (r := r) (by omega)
            refine ⟨⟨yn :: x :: r, d, f', v', rfl, rfl, ?_, Lib.hid ⟨⟨?_, hx1, hx2⟩, hW', hB', hgo, ?_⟩⟩, ?_⟩
            · simp; omega
            · simp; omega
            · have := HR.out.2.2.2.2; omega
            · have e1 := topM (n := l.length) (d := d) hW'
              have e2 := topM (n := l.length) (d := d) HR.out.2.1
              show (l.length - d) * (l.length + 1) + topOf v' w' < (l.length - d) * (l.length + 1) + topOf _ wo
              rw [e1, e2]
              exact hM
          · have dto : decide ((d : Int) ≤ y.to) = false := decide_eq_false hto
            have HBN := Lib.hid ((HI.out.2.trans ((below_alloc wr (.cells #[.int .u8 (y.b : Int), .int .u64 (y.out : Int), .int .i64 y.to] 93)).mono HI.out.2.size)))
            have HTO := Lib.hid hto
            clear hto
            go_wp2
            exact ⟨⟨k + 1, by omega, by go_num, rfl, Lib.hid ⟨fun i hi => by
              rcases Nat.lt_or_ge i k with h | h
              · exact HI.out.1 i h
              · rw [show i = k by omega, HY.out]; exact HTO.out, HBN.out⟩⟩, by simp [intOf]; omega⟩
        · obtain rfl : k = (stAt l x).arcs.length := by omega
          have HNO : Hid (nextA l x d = none) := Lib.hid (nextA_none HI.out.1)
          have HN := Lib.hid HBR.out
          have HW := Lib.hid (HR.out.2.1.below HI.out.2)
          by_cases hxd : x = d
          · subst hxd
            have dxd : ((x : Int) != (x : Int)) = false := by simp
            have hcw : r.length + 1 ≤ cw := by
              rcases HW.out.2 with ⟨h9, _⟩ | ⟨g', cap, cur, h9, _, _, h10, _⟩
              · cases h9
              · cases h9; simpa using h10
            have ex2 : IntKind.i64.wrap ((x : Int) + 1) = ((x + 1 : Nat) : Int) := by rw [IntWalk.i64_in _ (by omega)]; omega
            go_wp2
            have hW' := HW.out.pop
            have hgo := HR.out.2.2.2.1
            rw [ordGo_pop HNO.out] at hgo
            have hM := ordM_pop hxl (okW_mem hx2)
            refine ⟨⟨r, x + 1, f', _, rfl, by go_num, by simp at hwl; omega, Lib.hid ⟨hx2, hW', HN.out, hgo, by have := HR.out.2.2.2.2; omega⟩⟩, ?_⟩
            have e1 := topM (n := l.length) (d := x + 1) hW'
            have e2 := topM (n := l.length) (d := x) HR.out.2.1
            rw [show (intOf (Value.int .i64 ((x : Int) + 1))).toNat = x + 1 by simp [intOf]]
            show (l.length - (x + 1)) * (l.length + 1) + topOf _ wr < (l.length - x) * (l.length + 1) + topOf _ wo
            rw [e1, e2]
            exact hM
          · have dxd : ((x : Int) != (d : Int)) = true := by simp; omega
            have HF : Hid (orderedT l = decide (d = l.length)) := Lib.hid (by unfold orderedT; rw [HR.out.2.2.2.1, ordGo_stop HNO.out hxd])
            have HU : Hid ((((d : Nat) : Int) == (l.length : Int)) = orderedT l) := Lib.hid (by
              rw [HF.out, Bool.eq_iff_iff]
              simp
              omega)
            go_wp2
            go_ret
            exact ⟨by rw [← HU.out]; rfl, HN.out⟩
end Go.Proofs.Ytmfchlbafpkgaaa
namespace Go.Proofs.Ytmfchlbafpkgaaa
open Go.RowKit Go.Shelf

/-- Is a state right, at its place? -/
def okS (l : List DSt) (i : Nat) : Bool := formedT (stAt l i) i && (stAt l i).least == 0
def rightT (l : List DSt) (init : Nat) : Bool :=
  if l.length = 0 then false
  else if l.length = 1 ∧ (stAt l 0).fin = false then (stAt l 0).arcs.length == 0 && ((stAt l 0).out == 0 && init == 0)
  else (List.range l.length).all (okS l) && (orderedT l && unlikeT l)

theorem formedT_to {s : DSt} {n : Nat} (h : formedT s n = true) : ∀ a ∈ s.arcs, 0 ≤ a.to ∧ a.to < (n : Int) := by
  intro a ha
  obtain ⟨i, hi, rfl⟩ := List.getElem_of_mem ha
  unfold formedT at h
  rw [Bool.and_eq_true, List.all_eq_true] at h
  have := h.1 i (List.mem_range.2 hi)
  unfold okA at this
  rw [arcAt_lt hi] at this
  simp only [Bool.and_eq_true, Bool.not_eq_true', decide_eq_false_iff_not] at this
  omega

theorem rightT_bad {l : List DSt} {init i : Nat} (h0 : l.length ≠ 0) (h1 : ¬ (l.length = 1 ∧ (stAt l 0).fin = false)) (hi : i < l.length) (hb : okS l i = false) : rightT l init = false := by
  unfold rightT
  rw [if_neg h0, if_neg h1]
  have : (List.range l.length).all (okS l) = false := by
    rw [List.all_eq_false]
    exact ⟨i, List.mem_range.2 hi, by simp [hb]⟩
  rw [this]; rfl
theorem rightT_good {l : List DSt} {init : Nat} (h0 : l.length ≠ 0) (h1 : ¬ (l.length = 1 ∧ (stAt l 0).fin = false)) (h : ∀ i, i < l.length → okS l i = true) : rightT l init = (orderedT l && unlikeT l) := by
  unfold rightT
  rw [if_neg h0, if_neg h1]
  have : (List.range l.length).all (okS l) = true := by
    rw [List.all_eq_true]
    exact fun i hi => h i (List.mem_range.1 hi)
  rw [this]; rfl

theorem Arcs.lt {w : World} {v : Value} {l : List DArc} (h : Arcs w v l) (h0 : l ≠ []) : ∀ g, v.ownBlock = some g → g < w.heap.size := by
  intro g hg
  obtain ⟨ad, c, rfl, hc⟩ := h
  obtain ⟨b, o, rfl, hE⟩ := hc 0 (List.length_pos_iff.2 h0)
  cases hg
  exact hE.lt

set_option maxHeartbeats 4000000 in
set_option maxRecDepth 100000 in
theorem right_any {w : World} {v : Value} {l : List DSt} {init : Nat} (h : Sts w v l) (hl : l.length ≤ 100000) (ha : ∀ s ∈ l, s.arcs.length ≤ 100000) (ho : ∀ s ∈ l, s.ok) :
    Calls Try.prog 37 #[.agg #[v, .int .u64 (init : Int)]] w fun e w' => e = .returned (.bool (rightT l init)) ∧ Below w.heap.size w w' := by
  obtain ⟨ad, c, rfl, hc⟩ := id h
  have HC : Hid (∀ W, Below w.heap.size w W → ∀ i, i < l.length → ∃ b o, ad = some ⟨b, o, none⟩ ∧ StIn W b (o + i * 3) (stAt l i)) := Lib.hid fun W hb i hi => by
    obtain ⟨b, o, e, hE⟩ := hc i hi
    exact ⟨b, o, e, hE.below hb⟩
  have HSTS := Lib.hid h
  have HB0 := Lib.hid (below_alloc w (.cells #[.slice ad l.length c, .int .u64 (init : Int)] 65))
  have HX : Hid (∀ W, Below (w.heap.size + 1) (w.alloc (.cells #[.slice ad l.length c, .int .u64 (init : Int)] 65)) W → W.cell? ⟨w.heap.size, 0, none⟩ = some (.slice ad l.length c) ∧ W.cell? ⟨w.heap.size, 1, none⟩ = some (.int .u64 (init : Int))) := Lib.hid fun W hb => by
    have h1 : W.heap[w.heap.size]? = _ := (hb.block _ (by omega)).trans (heap_alloc_new w _)
    exact ⟨by rw [cell_of_row W _ 0 _ _ _ h1]; rfl, by rw [cell_of_row W _ 1 _ _ _ h1]; rfl⟩
  have HA := Lib.hid (And.intro ha ho)
  clear hc ha ho h
  by_cases h0 : l.length = 0
  · have HF : Hid (rightT l init = false) := Lib.hid (by unfold rightT; rw [if_pos h0])
    have d0 : ((l.length : Int) == 0) = true := by simp [h0]
    clear h0
    go_enter Try.func37, Try.ntmps37
    go_wp2
    go_ret
    exact ⟨by rw [HF.out]; rfl, HB0.out⟩
  · have d0 : ((l.length : Int) == 0) = false := by simp; exact fun e => h0 (by rw [e]; rfl)
    have hpos : 0 < l.length := by omega
    have ip : (0 : Int) < (l.length : Int) := by omega
    have H0 := Lib.hid h0
    clear h0
    obtain ⟨b, o, rfl, -⟩ := HC.out w (Below.refl _ _) 0 hpos
    have HG : Hid (∀ W, Below (w.heap.size + 1) (w.alloc (.cells #[.slice (some ⟨b, o, none⟩) l.length c, .int .u64 (init : Int)] 65)) W → Below w.heap.size w W) := Lib.hid fun W hb => HB0.out.trans (hb.mono (by omega))
    have HS0 : Hid (∀ W, Below w.heap.size w W → ∃ v0, W.cell? ⟨b, o, none⟩ = some v0 ∧ W.cell? ⟨b, o + 1, none⟩ = some (.bool (stAt l 0).fin) ∧ W.cell? ⟨b, o + 2, none⟩ = some (.int .u64 ((stAt l 0).out : Int)) ∧ Arcs W v0 (stAt l 0).arcs) := Lib.hid fun W hb => by
      obtain ⟨b', o', e, hE⟩ := HC.out W hb 0 hpos
      cases e
      unfold StIn at hE
      rw [Nat.zero_mul, Nat.add_zero] at hE
      exact hE
    obtain ⟨v0, y0, y1, y2, y3⟩ := HS0.out _ HB0.out
    obtain ⟨ad2, c2, rfl, -⟩ := id y3
    have HY3 := Lib.hid y3
    clear y3
    by_cases hr : l.length = 1 ∧ (stAt l 0).fin = false
    · have dl : ((l.length : Int) == 1) = true := by simp; omega
      rw [hr.2] at y1
      have HF : Hid (rightT l init = ((stAt l 0).arcs.length == 0 && ((stAt l 0).out == 0 && init == 0))) := Lib.hid (by unfold rightT; rw [if_neg H0.out, if_pos hr])
      have HBX := Lib.hid (HB0.out.trans ((below_alloc (w.alloc (.cells #[.slice (some ⟨b, o, none⟩) l.length c, .int .u64 (init : Int)] 65)) (.cells #[.slice ad2 (stAt l 0).arcs.length c2, .bool false, .int .u64 ((stAt l 0).out : Int)] 91)).mono HB0.out.size))
      clear hr
      by_cases ha0 : (stAt l 0).arcs.length = 0
      · have da : (((stAt l 0).arcs.length : Int) == 0) = true := by simp [ha0]
        by_cases hb0 : (stAt l 0).out = 0
        · have db : (((stAt l 0).out : Int) == 0) = true := by simp [hb0]
          have HF2 : Hid (rightT l init = ((init : Int) == 0)) := Lib.hid (by rw [HF.out, ha0, hb0, Bool.eq_iff_iff]; simp)
          clear ha0 hb0
          go_enter Try.func37, Try.ntmps37
          go_wp2
          go_ret
          exact ⟨by rw [HF2.out]; rfl, HBX.out⟩
        · have db : (((stAt l 0).out : Int) == 0) = false := by simp [hb0]
          have HF2 : Hid (rightT l init = false) := Lib.hid (by rw [HF.out, show ((stAt l 0).out == 0) = false by simp [hb0]]; simp)
          clear ha0 hb0
          go_enter Try.func37, Try.ntmps37
          go_wp2
          go_ret
          exact ⟨by rw [HF2.out]; rfl, HBX.out⟩
      · have da : (((stAt l 0).arcs.length : Int) == 0) = false := by simp; intro e; exact ha0 (by rw [e]; rfl)
        have HF2 : Hid (rightT l init = false) := Lib.hid (by rw [HF.out, show ((stAt l 0).arcs.length == 0) = false by simp; intro e; exact ha0 (by rw [e]; rfl)]; simp)
        clear ha0
        go_enter Try.func37, Try.ntmps37
        go_wp2
        go_ret
        exact ⟨by rw [HF2.out]; rfl, HBX.out⟩
    · have HR := Lib.hid hr
      have dd : ((l.length : Int) == 1) = false ∨ (((l.length : Int) == 1) = true ∧ (stAt l 0).fin = true) := by
        by_cases hl1 : l.length = 1
        · refine .inr ⟨by simp; omega, ?_⟩
          cases hf : (stAt l 0).fin
          · exact absurd ⟨hl1, hf⟩ hr
          · rfl
        · exact .inl (by simp; omega)
      clear hr
      have HY : Hid (∀ W, Below w.heap.size w W → ∀ k, k < l.length → ∃ ad3 c3, W.cell? ⟨b, o + k * 3, none⟩ = some (.slice ad3 (stAt l k).arcs.length c3) ∧ W.cell? ⟨b, o + k * 3 + 1, none⟩ = some (.bool (stAt l k).fin) ∧ W.cell? ⟨b, o + k * 3 + 2, none⟩ = some (.int .u64 ((stAt l k).out : Int)) ∧ Arcs W (.slice ad3 (stAt l k).arcs.length c3) (stAt l k).arcs) := Lib.hid fun W hb k hk => by
        obtain ⟨b', o', e, x, z0, z1, z2, z3⟩ := HC.out W hb k hk
        cases e
        obtain ⟨ad3, c3, rfl, -⟩ := id z3
        exact ⟨ad3, c3, z0, z1, z2, z3⟩
      go_enter Try.func37, Try.ntmps37
      rcases dd with dl | ⟨dl, df⟩
      · go_wp2
        go_loopw [43] (fun s43 wr => ∃ k : Nat, k ≤ l.length ∧ s43 = .int .i64 k ∧ Hid ((∀ i, i < k → okS l i = true) ∧ Below (w.heap.size + 1) (w.alloc (.cells #[.slice (some ⟨b, o, none⟩) l.length c, .int .u64 (init : Int)] 65)) wr)) (fun s43 _ => l.length - (intOf s43).toNat)
        case atStart => exact ⟨0, Nat.zero_le _, rfl, Lib.hid ⟨fun i hi => absurd hi (Nat.not_lt_zero i), Below.refl _ _⟩⟩
        case round =>
          obtain ⟨k, hk, rfl, HI⟩ := hrel
          have hzz : w.heap.size + 1 ≤ wr.heap.size := by have := HI.out.2.size; simpa using this
          have HBW := Lib.hid (HG.out wr HI.out.2)
          by_cases hlt : k < l.length
          · obtain ⟨ad3, c3, z0, z1, z2, z3⟩ := HY.out wr HBW.out k hlt
            have hmem : stAt l k ∈ l := by rw [stAt_lt hlt]; exact List.getElem_mem hlt
            have hbx := below_alloc wr (.cells #[.slice ad3 (stAt l k).arcs.length c3, .bool (stAt l k).fin, .int .u64 ((stAt l k).out : Int)] 91)
            have HBX := Lib.hid hbx
            have Q1 := Lib.hid (formed_any (n := k) (z3.below hbx) (HA.out.1 _ hmem) (by omega) (HA.out.2 _ hmem))
            have HZ3 := Lib.hid z3
            have HN1 := Lib.hid (HI.out.2.alloc hzz (.cells #[.slice ad3 (stAt l k).arcs.length c3, .bool (stAt l k).fin, .int .u64 ((stAt l k).out : Int)] 91))
            clear z3 hbx
            cases hfo : formedT (stAt l k) k
            · rw [hfo] at Q1
              have HF := Lib.hid (rightT_bad (init := init) H0.out HR.out hlt (by unfold okS; rw [hfo]; rfl))
              clear hfo
              go_wp2_with (go_at_call 76; (with_reducible refine Q1.out.mono ?_); rintro e' w5 ⟨rfl, g1⟩; have H5 := Lib.hid (HBW.out.trans ((HBX.out.trans (g1.mono HBX.out.size)).mono HBW.out.size)); clear g1)
              go_ret
              exact ⟨by rw [HF.out]; rfl, H5.out⟩
            · rw [hfo] at Q1
              have HFO := Lib.hid hfo
              clear hfo
              have HQ2 : Hid (∀ W, Below (wr.alloc (.cells #[.slice ad3 (stAt l k).arcs.length c3, .bool (stAt l k).fin, .int .u64 ((stAt l k).out : Int)] 91)).heap.size (wr.alloc (.cells #[.slice ad3 (stAt l k).arcs.length c3, .bool (stAt l k).fin, .int .u64 ((stAt l k).out : Int)] 91)) W → Calls Try.prog 77 #[.pointer (some ⟨wr.heap.size, 0, none⟩)] W fun e w' => e = .returned (.int .u64 ((stAt l k).least : Int)) ∧ Below W.heap.size W w') := Lib.hid fun W hb => by
                have hA := HZ3.out.below (HBX.out.trans (hb.mono HBX.out.size))
                have hS : StB W wr.heap.size (.slice ad3 (stAt l k).arcs.length c3) (stAt l k).fin (stAt l k).out := (hb.block _ (by simp)).trans (heap_alloc_new wr _)
                exact least_any hS hA (fun h0 => hA.lt h0) (Nat.le_trans (HA.out.1 _ hmem) (by omega))
              cases hls : ((stAt l k).least == 0)
              · have dls : (((stAt l k).least : Int) != 0) = true := by simp at hls ⊢; exact fun e => hls (by omega)
                have HF := Lib.hid (rightT_bad (init := init) H0.out HR.out hlt (by unfold okS; rw [HFO.out, hls]; rfl))
                clear hls
                go_wp2_with (first
                  | (go_at_call 76; (with_reducible refine Q1.out.mono ?_); rintro e' w5 ⟨rfl, g1⟩; have H5 := Lib.hid g1; clear g1)
                  | (go_at_call 77; (with_reducible refine (HQ2.out _ H5.out).mono ?_); rintro e' w6 ⟨rfl, g1⟩; have H6 := Lib.hid (HBW.out.trans ((HBX.out.trans ((H5.out.trans (g1.mono H5.out.size)).mono HBX.out.size)).mono HBW.out.size)); clear g1))
                go_ret
                exact ⟨by rw [HF.out]; rfl, H6.out⟩
              · have dls : (((stAt l k).least : Int) != 0) = false := by simp at hls ⊢; omega
                have HSZ : Hid (w.heap.size + 1 ≤ (wr.alloc (.cells #[.slice ad3 (stAt l k).arcs.length c3, .bool (stAt l k).fin, .int .u64 ((stAt l k).out : Int)] 91)).heap.size) := Lib.hid (by simp; omega)
                have HOK : Hid (okS l k = true) := Lib.hid (by unfold okS; rw [HFO.out, hls]; rfl)
                clear hls
                go_wp2_with (first
                  | (go_at_call 76; (with_reducible refine Q1.out.mono ?_); rintro e' w5 ⟨rfl, g1⟩; have H5 := Lib.hid g1; clear g1)
                  | (go_at_call 77; (with_reducible refine (HQ2.out _ H5.out).mono ?_); rintro e' w6 ⟨rfl, g1⟩; have H6 := Lib.hid (HN1.out.trans ((H5.out.trans (g1.mono H5.out.size)).mono HSZ.out)); clear g1))
                exact ⟨⟨k + 1, by omega, by go_num, Lib.hid ⟨fun i hi => by
                  rcases Nat.lt_or_ge i k with h | h
                  · exact HI.out.1 i h
                  · rw [show i = k by omega]; exact HOK.out, H6.out⟩⟩, by simp [intOf]; omega⟩
          · obtain rfl : k = l.length := by omega
            have kx := (HX.out wr HI.out.2).1
            have HF := Lib.hid (rightT_good (init := init) H0.out HR.out HI.out.1)
            have Q1 := Lib.hid (ordered_any (HSTS.out.below HBW.out) hl (fun e => H0.out (by rw [e]; rfl)) HA.out.1 (fun i hi => formedT_to (by have := HI.out.1 i hi; unfold okS at this; exact (Bool.and_eq_true _ _ ▸ this).1)))
            cases hod : orderedT l
            · rw [hod] at Q1
              have HF2 : Hid (rightT l init = false) := Lib.hid (by rw [HF.out, hod]; rfl)
              clear hod
              go_wp2_with (go_at_call 78; (with_reducible refine Q1.out.mono ?_); rintro e' w5 ⟨rfl, g1⟩; have H5 := Lib.hid (HBW.out.trans (g1.mono HBW.out.size)); clear g1)
              go_ret
              exact ⟨by rw [HF2.out]; rfl, H5.out⟩
            · rw [hod] at Q1
              have HF2 : Hid (rightT l init = unlikeT l) := Lib.hid (by rw [HF.out, hod]; rfl)
              have HQ2 : Hid (∀ W, Below wr.heap.size wr W → W.cell? ⟨w.heap.size, 0, none⟩ = some (.slice (some ⟨b, o, none⟩) l.length c) ∧ Calls Try.prog 79 #[.slice (some ⟨b, o, none⟩) l.length c] W fun e w' => e = .returned (.bool (unlikeT l)) ∧ Below W.heap.size W w') := Lib.hid fun W hb =>
                ⟨(HX.out W (HI.out.2.trans (hb.mono hzz))).1, unlike_any (HSTS.out.below (HBW.out.trans (hb.mono HBW.out.size))) hl HA.out.1 HA.out.2⟩
              clear hod
              go_wp2_with (first
                | (go_at_call 78; (with_reducible refine Q1.out.mono ?_); rintro e' w5 ⟨rfl, g1⟩; have H5 := Lib.hid g1; have kx5 := (HQ2.out w5 g1).1; clear g1)
                | (go_at_call 79; (with_reducible refine (HQ2.out _ H5.out).2.mono ?_); rintro e' w6 ⟨rfl, g1⟩; have H6 := Lib.hid (HBW.out.trans ((H5.out.trans (g1.mono H5.out.size)).mono HBW.out.size)); clear g1))
              go_ret
              exact ⟨by rw [HF2.out]; rfl, H6.out⟩
      · rw [df] at y1
        clear df
        go_wp2
        go_loopw [43] (fun s43 wr => ∃ k : Nat, k ≤ l.length ∧ s43 = .int .i64 k ∧ Hid ((∀ i, i < k → okS l i = true) ∧ Below (w.heap.size + 1) (w.alloc (.cells #[.slice (some ⟨b, o, none⟩) l.length c, .int .u64 (init : Int)] 65)) wr)) (fun s43 _ => l.length - (intOf s43).toNat)
        case atStart => exact ⟨0, Nat.zero_le _, rfl, Lib.hid ⟨fun i hi => absurd hi (Nat.not_lt_zero i), Below.refl _ _⟩⟩
        case round =>
          obtain ⟨k, hk, rfl, HI⟩ := hrel
          have hzz : w.heap.size + 1 ≤ wr.heap.size := by have := HI.out.2.size; simpa using this
          have HBW := Lib.hid (HG.out wr HI.out.2)
          by_cases hlt : k < l.length
          · obtain ⟨ad3, c3, z0, z1, z2, z3⟩ := HY.out wr HBW.out k hlt
            have hmem : stAt l k ∈ l := by rw [stAt_lt hlt]; exact List.getElem_mem hlt
            have hbx := below_alloc wr (.cells #[.slice ad3 (stAt l k).arcs.length c3, .bool (stAt l k).fin, .int .u64 ((stAt l k).out : Int)] 91)
            have HBX := Lib.hid hbx
            have Q1 := Lib.hid (formed_any (n := k) (z3.below hbx) (HA.out.1 _ hmem) (by omega) (HA.out.2 _ hmem))
            have HZ3 := Lib.hid z3
            have HN1 := Lib.hid (HI.out.2.alloc hzz (.cells #[.slice ad3 (stAt l k).arcs.length c3, .bool (stAt l k).fin, .int .u64 ((stAt l k).out : Int)] 91))
            clear z3 hbx
            cases hfo : formedT (stAt l k) k
            · rw [hfo] at Q1
              have HF := Lib.hid (rightT_bad (init := init) H0.out HR.out hlt (by unfold okS; rw [hfo]; rfl))
              clear hfo
              go_wp2_with (go_at_call 76; (with_reducible refine Q1.out.mono ?_); rintro e' w5 ⟨rfl, g1⟩; have H5 := Lib.hid (HBW.out.trans ((HBX.out.trans (g1.mono HBX.out.size)).mono HBW.out.size)); clear g1)
              go_ret
              exact ⟨by rw [HF.out]; rfl, H5.out⟩
            · rw [hfo] at Q1
              have HFO := Lib.hid hfo
              clear hfo
              have HQ2 : Hid (∀ W, Below (wr.alloc (.cells #[.slice ad3 (stAt l k).arcs.length c3, .bool (stAt l k).fin, .int .u64 ((stAt l k).out : Int)] 91)).heap.size (wr.alloc (.cells #[.slice ad3 (stAt l k).arcs.length c3, .bool (stAt l k).fin, .int .u64 ((stAt l k).out : Int)] 91)) W → Calls Try.prog 77 #[.pointer (some ⟨wr.heap.size, 0, none⟩)] W fun e w' => e = .returned (.int .u64 ((stAt l k).least : Int)) ∧ Below W.heap.size W w') := Lib.hid fun W hb => by
                have hA := HZ3.out.below (HBX.out.trans (hb.mono HBX.out.size))
                have hS : StB W wr.heap.size (.slice ad3 (stAt l k).arcs.length c3) (stAt l k).fin (stAt l k).out := (hb.block _ (by simp)).trans (heap_alloc_new wr _)
                exact least_any hS hA (fun h0 => hA.lt h0) (Nat.le_trans (HA.out.1 _ hmem) (by omega))
              cases hls : ((stAt l k).least == 0)
              · have dls : (((stAt l k).least : Int) != 0) = true := by simp at hls ⊢; exact fun e => hls (by omega)
                have HF := Lib.hid (rightT_bad (init := init) H0.out HR.out hlt (by unfold okS; rw [HFO.out, hls]; rfl))
                clear hls
                go_wp2_with (first
                  | (go_at_call 76; (with_reducible refine Q1.out.mono ?_); rintro e' w5 ⟨rfl, g1⟩; have H5 := Lib.hid g1; clear g1)
                  | (go_at_call 77; (with_reducible refine (HQ2.out _ H5.out).mono ?_); rintro e' w6 ⟨rfl, g1⟩; have H6 := Lib.hid (HBW.out.trans ((HBX.out.trans ((H5.out.trans (g1.mono H5.out.size)).mono HBX.out.size)).mono HBW.out.size)); clear g1))
                go_ret
                exact ⟨by rw [HF.out]; rfl, H6.out⟩
              · have dls : (((stAt l k).least : Int) != 0) = false := by simp at hls ⊢; omega
                have HSZ : Hid (w.heap.size + 1 ≤ (wr.alloc (.cells #[.slice ad3 (stAt l k).arcs.length c3, .bool (stAt l k).fin, .int .u64 ((stAt l k).out : Int)] 91)).heap.size) := Lib.hid (by simp; omega)
                have HOK : Hid (okS l k = true) := Lib.hid (by unfold okS; rw [HFO.out, hls]; rfl)
                clear hls
                go_wp2_with (first
                  | (go_at_call 76; (with_reducible refine Q1.out.mono ?_); rintro e' w5 ⟨rfl, g1⟩; have H5 := Lib.hid g1; clear g1)
                  | (go_at_call 77; (with_reducible refine (HQ2.out _ H5.out).mono ?_); rintro e' w6 ⟨rfl, g1⟩; have H6 := Lib.hid (HN1.out.trans ((H5.out.trans (g1.mono H5.out.size)).mono HSZ.out)); clear g1))
                exact ⟨⟨k + 1, by omega, by go_num, Lib.hid ⟨fun i hi => by
                  rcases Nat.lt_or_ge i k with h | h
                  · exact HI.out.1 i h
                  · rw [show i = k by omega]; exact HOK.out, H6.out⟩⟩, by simp [intOf]; omega⟩
          · obtain rfl : k = l.length := by omega
            have kx := (HX.out wr HI.out.2).1
            have HF := Lib.hid (rightT_good (init := init) H0.out HR.out HI.out.1)
            have Q1 := Lib.hid (ordered_any (HSTS.out.below HBW.out) hl (fun e => H0.out (by rw [e]; rfl)) HA.out.1 (fun i hi => formedT_to (by have := HI.out.1 i hi; unfold okS at this; exact (Bool.and_eq_true _ _ ▸ this).1)))
            cases hod : orderedT l
            · rw [hod] at Q1
              have HF2 : Hid (rightT l init = false) := Lib.hid (by rw [HF.out, hod]; rfl)
              clear hod
              go_wp2_with (go_at_call 78; (with_reducible refine Q1.out.mono ?_); rintro e' w5 ⟨rfl, g1⟩; have H5 := Lib.hid (HBW.out.trans (g1.mono HBW.out.size)); clear g1)
              go_ret
              exact ⟨by rw [HF2.out]; rfl, H5.out⟩
            · rw [hod] at Q1
              have HF2 : Hid (rightT l init = unlikeT l) := Lib.hid (by rw [HF.out, hod]; rfl)
              have HQ2 : Hid (∀ W, Below wr.heap.size wr W → W.cell? ⟨w.heap.size, 0, none⟩ = some (.slice (some ⟨b, o, none⟩) l.length c) ∧ Calls Try.prog 79 #[.slice (some ⟨b, o, none⟩) l.length c] W fun e w' => e = .returned (.bool (unlikeT l)) ∧ Below W.heap.size W w') := Lib.hid fun W hb =>
                ⟨(HX.out W (HI.out.2.trans (hb.mono hzz))).1, unlike_any (HSTS.out.below (HBW.out.trans (hb.mono HBW.out.size))) hl HA.out.1 HA.out.2⟩
              clear hod
              go_wp2_with (first
                | (go_at_call 78; (with_reducible refine Q1.out.mono ?_); rintro e' w5 ⟨rfl, g1⟩; have H5 := Lib.hid g1; have kx5 := (HQ2.out w5 g1).1; clear g1)
                | (go_at_call 79; (with_reducible refine (HQ2.out _ H5.out).2.mono ?_); rintro e' w6 ⟨rfl, g1⟩; have H6 := Lib.hid (HBW.out.trans ((H5.out.trans (g1.mono H5.out.size)).mono HBW.out.size)); clear g1))
              go_ret
              exact ⟨by rw [HF2.out]; rfl, H6.out⟩
end Go.Proofs.Ytmfchlbafpkgaaa
namespace Go.Proofs.Ytmfchlbafpkgaaa
open Go.RowKit Go.Shelf Said

def arcE (x y : DArc) : Bool := ((x.b : Int) == (y.b : Int)) && (((x.out : Int) == (y.out : Int)) && (x.to == y.to))
theorem arcE_iff (x y : DArc) : arcE x y = true ↔ x = y := by
  unfold arcE
  rw [Bool.and_eq_true, Bool.and_eq_true, beq_iff_eq, beq_iff_eq, beq_iff_eq]
  constructor
  · rintro ⟨h1, h2, h3⟩
    obtain ⟨a, n, g⟩ := x
    obtain ⟨b, m, k⟩ := y
    simp only at h1 h2 h3
    have e1 : a = b := by omega
    have e2 : n = m := by omega
    rw [e1, e2, h3]
  · rintro rfl
    exact ⟨rfl, rfl, rfl⟩

theorem run_neA (x y : DArc) (w : World) : Sem.run Try.prog (binOp .neq 93 (.agg #[.int .u8 (x.b : Int), .int .u64 (x.out : Int), .int .i64 x.to]) (.agg #[.int .u8 (y.b : Int), .int .u64 (y.out : Int), .int .i64 y.to])) w = .ok (.bool (!arcE x y)) w := by
  have u9 := Try.underlying5
  have a9 := Try.isAgg5
  have z9 := Try.sizeOf5
  have u22 := Try.underlying63
  have a22 := Try.isAgg63
  have z22 := Try.sizeOf63
  have u4 := Try.underlying3
  have a4 := Try.isAgg3
  have z4 := Try.sizeOf3
  have hS : Try.prog.underlying 93 = some (.struct (Try.prog.fieldsOf 93)) := by kernel_rfl
  have hp : Try.prog.stoodInHeld 93 = false := by kernel_rfl
  unfold arcE
  rw [run_neq_struct, show (10000 : Nat) = 9999 + 1 from rfl, run_equalIn_agg w 9999 93 _ _ hS hp]
  simp only [Program.fieldsOf, Try.underlying93]
  go_simp
  cases h1 : ((x.b : Int) == (y.b : Int)) <;> cases h2 : ((x.out : Int) == (y.out : Int)) <;> cases h3 : (x.to == y.to) <;> simp_all

set_option maxHeartbeats 2000000 in
set_option maxRecDepth 100000 in
/-- States that are alike. -/
theorem alike_true {w : World} {v1 v2 : Value} {s : DSt} (h1 : Arcs w v1 s.arcs) (h2 : Arcs w v2 s.arcs) (hl : s.arcs.length ≤ 1000000) :
    Calls Try.prog 75 #[.agg #[v1, .bool s.fin, .int .u64 (s.out : Int)], .agg #[v2, .bool s.fin, .int .u64 (s.out : Int)]] w fun e w' => e = .returned (.bool true) ∧ Below w.heap.size w w' := by
  obtain ⟨ad1, c1, rfl, hc1⟩ := h1
  obtain ⟨ad2, c2, rfl, hc2⟩ := h2
  have HC : Hid (∀ W, Below w.heap.size w W → ∀ i, i < s.arcs.length → (∃ b o, ad1 = some ⟨b, o, none⟩ ∧ ArcIn W b (o + i * 3) (arcAt s.arcs i)) ∧ ∃ b o, ad2 = some ⟨b, o, none⟩ ∧ ArcIn W b (o + i * 3) (arcAt s.arcs i)) := Lib.hid fun W hb i hi => by
    obtain ⟨b, o, e, hE⟩ := hc1 i hi
    obtain ⟨b', o', e', hE'⟩ := hc2 i hi
    exact ⟨⟨b, o, e, hE.later hb⟩, b', o', e', hE'.later hb⟩
  have HB0 := Lib.hid ((below_alloc w (.cells #[.slice ad1 s.arcs.length c1, .bool s.fin, .int .u64 (s.out : Int)] 91)).alloc (by simp) (.cells #[.slice ad2 s.arcs.length c2, .bool s.fin, .int .u64 (s.out : Int)] 91))
  have HX : Hid (∀ W, Below (w.heap.size + 2) ((w.alloc (.cells #[.slice ad1 s.arcs.length c1, .bool s.fin, .int .u64 (s.out : Int)] 91)).alloc (.cells #[.slice ad2 s.arcs.length c2, .bool s.fin, .int .u64 (s.out : Int)] 91)) W → W.cell? ⟨w.heap.size, 0, none⟩ = some (.slice ad1 s.arcs.length c1) ∧ W.cell? ⟨w.heap.size + 1, 0, none⟩ = some (.slice ad2 s.arcs.length c2)) := Lib.hid fun W hb => by
    have e0 := hb.cell (p := ⟨w.heap.size, 0, none⟩) (show w.heap.size < w.heap.size + 2 by omega)
    have e1 := hb.cell (p := ⟨w.heap.size + 1, 0, none⟩) (show w.heap.size + 1 < w.heap.size + 2 by omega)
    rw [e0, e1]
    constructor <;> simp
  clear hc1 hc2
  go_enter Try.func75, Try.ntmps75
  go_wp2
  go_loopw [5] (fun s5 wr => ∃ k : Nat, k ≤ s.arcs.length ∧ s5 = .int .i64 k ∧ Hid (Below (w.heap.size + 2) ((w.alloc (.cells #[.slice ad1 s.arcs.length c1, .bool s.fin, .int .u64 (s.out : Int)] 91)).alloc (.cells #[.slice ad2 s.arcs.length c2, .bool s.fin, .int .u64 (s.out : Int)] 91)) wr)) (fun s5 _ => s.arcs.length - (intOf s5).toNat)
  case atStart => exact ⟨0, Nat.zero_le _, rfl, Lib.hid (Below.refl _ _)⟩
  case round =>
    obtain ⟨k, hk, rfl, HR⟩ := hrel
    obtain ⟨x1, x2⟩ := HX.out wr HR.out
    have HBW := Lib.hid (HB0.out.trans (HR.out.mono (by omega)))
    by_cases hlt : k < s.arcs.length
    · obtain ⟨⟨b, o, rfl, hE⟩, b', o', rfl, hE'⟩ := HC.out wr HBW.out k hlt
      obtain ⟨y, hy⟩ : ∃ y, arcAt s.arcs k = y := ⟨_, rfl⟩
      rw [hy] at hE hE'
      obtain ⟨p1, p2, p3⟩ := hE
      obtain ⟨p4, p5, p6⟩ := hE'
      have hne := run_neA y y
      rw [(arcE_iff y y).2 rfl, Bool.not_true] at hne
      clear hy
      go_wp2
      go_quiet (fail)
      have HB := Lib.hid (below_drewN HR.out nq)
      generalize wr.drewN nq = w2 at HB ⊢
      go_wp2
      exact ⟨⟨k + 1, by omega, by go_num, HB⟩, by simp [intOf]; omega⟩
    · go_wp2
      go_ret
      exact ⟨rfl, HBW.out⟩

set_option maxHeartbeats 4000000 in
set_option maxRecDepth 100000 in
/-- Transducers that are alike. -/
theorem sameF_true {w : World} {v1 v2 : Value} {l : List DSt} {n : Nat} (h1 : Sts w v1 l) (h2 : Sts w v2 l) (hl : l.length ≤ 100000) (ha : ∀ s ∈ l, s.arcs.length ≤ 100000) :
    Calls Try.prog 36 #[.agg #[v1, .int .u64 (n : Int)], .agg #[v2, .int .u64 (n : Int)]] w fun e w' => e = .returned (.bool true) ∧ Below w.heap.size w w' := by
  obtain ⟨ad1, c1, rfl, hc1⟩ := h1
  obtain ⟨ad2, c2, rfl, hc2⟩ := h2
  have HC : Hid (∀ W, Below w.heap.size w W → ∀ i, i < l.length → (∃ b o, ad1 = some ⟨b, o, none⟩ ∧ StIn W b (o + i * 3) (stAt l i)) ∧ ∃ b o, ad2 = some ⟨b, o, none⟩ ∧ StIn W b (o + i * 3) (stAt l i)) := Lib.hid fun W hb i hi => by
    obtain ⟨b, o, e, hE⟩ := hc1 i hi
    obtain ⟨b', o', e', hE'⟩ := hc2 i hi
    exact ⟨⟨b, o, e, hE.below hb⟩, b', o', e', hE'.below hb⟩
  have HB0 := Lib.hid ((below_alloc w (.cells #[.slice ad1 l.length c1, .int .u64 (n : Int)] 65)).alloc (by simp) (.cells #[.slice ad2 l.length c2, .int .u64 (n : Int)] 65))
  have HX : Hid (∀ W, Below (w.heap.size + 2) ((w.alloc (.cells #[.slice ad1 l.length c1, .int .u64 (n : Int)] 65)).alloc (.cells #[.slice ad2 l.length c2, .int .u64 (n : Int)] 65)) W → W.cell? ⟨w.heap.size, 0, none⟩ = some (.slice ad1 l.length c1) ∧ W.cell? ⟨w.heap.size + 1, 0, none⟩ = some (.slice ad2 l.length c2)) := Lib.hid fun W hb => by
    have e0 := hb.cell (p := ⟨w.heap.size, 0, none⟩) (show w.heap.size < w.heap.size + 2 by omega)
    have e1 := hb.cell (p := ⟨w.heap.size + 1, 0, none⟩) (show w.heap.size + 1 < w.heap.size + 2 by omega)
    rw [e0, e1]
    constructor <;> simp
  have HA := Lib.hid ha
  clear hc1 hc2 ha
  go_enter Try.func36, Try.ntmps36
  go_wp2
  go_loopw [5] (fun s5 wr => ∃ k : Nat, k ≤ l.length ∧ s5 = .int .i64 k ∧ Hid (Below (w.heap.size + 2) ((w.alloc (.cells #[.slice ad1 l.length c1, .int .u64 (n : Int)] 65)).alloc (.cells #[.slice ad2 l.length c2, .int .u64 (n : Int)] 65)) wr)) (fun s5 _ => l.length - (intOf s5).toNat)
  case atStart => exact ⟨0, Nat.zero_le _, rfl, Lib.hid (Below.refl _ _)⟩
  case round =>
    obtain ⟨k, hk, rfl, HR⟩ := hrel
    have HBW := Lib.hid (HB0.out.trans (HR.out.mono (by omega)))
    have hzz : w.heap.size + 2 ≤ wr.heap.size := by have := HR.out.size; simpa using this
    by_cases hlt : k < l.length
    · obtain ⟨⟨b, o, rfl, x, p1, p2, p3, p4⟩, b', o', rfl, x', p5, p6, p7, p8⟩ := HC.out wr HBW.out k hlt
      obtain ⟨e1, f1, rfl, -⟩ := id p4
      obtain ⟨e2, f2, rfl, -⟩ := id p8
      have hmem : stAt l k ∈ l := by rw [stAt_lt hlt]; exact List.getElem_mem hlt
      obtain ⟨y, hy⟩ : ∃ y, stAt l k = y := ⟨_, rfl⟩
      rw [hy] at p1 p2 p3 p4 p5 p6 p7 p8 hmem
      have HY : Hid (∀ W, Below wr.heap.size wr W → (W.cell? ⟨w.heap.size, 0, none⟩ = some (.slice (some ⟨b, o, none⟩) l.length c1) ∧ W.cell? ⟨w.heap.size + 1, 0, none⟩ = some (.slice (some ⟨b', o', none⟩) l.length c2)) ∧ (W.cell? ⟨b, o + k * 3, none⟩ = some (.slice e1 y.arcs.length f1) ∧ W.cell? ⟨b, o + k * 3 + 1, none⟩ = some (.bool y.fin) ∧ W.cell? ⟨b, o + k * 3 + 2, none⟩ = some (.int .u64 (y.out : Int))) ∧ (W.cell? ⟨b', o' + k * 3, none⟩ = some (.slice e2 y.arcs.length f2) ∧ W.cell? ⟨b', o' + k * 3 + 1, none⟩ = some (.bool y.fin) ∧ W.cell? ⟨b', o' + k * 3 + 2, none⟩ = some (.int .u64 (y.out : Int)))) := Lib.hid fun W hb => by
        have s1 := hb.block b (block_lt_of_cell p1)
        have s2 := hb.block b' (block_lt_of_cell p5)
        exact ⟨HX.out W (HR.out.trans (hb.mono hzz)), ⟨(cell_same s1).trans p1, (cell_same s1).trans p2, (cell_same s1).trans p3⟩, (cell_same s2).trans p5, (cell_same s2).trans p6, (cell_same s2).trans p7⟩
      have HQ : Hid (∀ W, Below wr.heap.size wr W → Calls Try.prog 75 #[.agg #[.slice e1 y.arcs.length f1, .bool y.fin, .int .u64 (y.out : Int)], .agg #[.slice e2 y.arcs.length f2, .bool y.fin, .int .u64 (y.out : Int)]] W fun e w' => e = .returned (.bool true) ∧ Below W.heap.size W w') := Lib.hid fun W hb => alike_true (p4.below hb) (p8.below hb) (Nat.le_trans (HA.out y hmem) (by omega))
      obtain ⟨x1, x2⟩ := HX.out wr HR.out
      have il : (k : Int) < (l.length : Int) := by omega
      clear p1 p2 p3 p4 p5 p6 p7 p8 hmem hy
      go_wp2
      refine Said.region (by kernel_rfl) (by kernel_rfl) (by kernel_rfl) [.is (.pointer (some ⟨w.heap.size, 0, none⟩)), .is (.slice (some ⟨b, o, none⟩) l.length c1), .is (.int .i64 (k : Int)), .is (.pointer (some ⟨b, o + k * 3, none⟩)), .is (.agg #[.slice e1 y.arcs.length f1, .bool y.fin, .int .u64 (y.out : Int)]),
        .is (.pointer (some ⟨w.heap.size + 1, 0, none⟩)), .is (.slice (some ⟨b', o', none⟩) l.length c2), .is (.int .i64 (k : Int)), .is (.pointer (some ⟨b', o' + k * 3, none⟩)), .is (.agg #[.slice e2 y.arcs.length f2, .bool y.fin, .int .u64 (y.out : Int)]), .is (.bool true), .is (.bool false)] ?_
      simp only [List.toList_toArray]
      iterate 10 (
        refine sq_pure (by rfl) (fun W hb _ => ?_) ?_
        · obtain ⟨⟨a1, a2⟩, ⟨a3, a4, a5⟩, a6, a7, a8⟩ := HY.out W hb
          go_simp
        simp only [Act.put, List.setIfInBounds_toArray, List.set_cons_zero, List.set_cons_succ])
      refine sq_call (f := 75) (args := #[.agg #[.slice e1 y.arcs.length f1, .bool y.fin, .int .u64 (y.out : Int)], .agg #[.slice e2 y.arcs.length f2, .bool y.fin, .int .u64 (y.out : Int)]]) (by rfl) (fun W => by go_simp) (fun W hb _ => HQ.out W hb) ?_
      simp only [Act.put, List.setIfInBounds_toArray, List.set_cons_zero, List.set_cons_succ]
      refine sq_pure (by rfl) (fun W hb _ => by go_simp) ?_
      simp only [Act.put, List.setIfInBounds_toArray, List.set_cons_zero, List.set_cons_succ]
      refine sq_end (fun W hb hK9 => ?_)
      have HN := Lib.hid (HR.out.trans (hb.mono hzz))
      clear hK9 hb
      go_wp2
      exact ⟨⟨k + 1, by omega, by go_num, HN⟩, by simp [intOf]; omega⟩
    · obtain ⟨x1, x2⟩ := HX.out wr HR.out
      go_wp2
      go_ret
      exact ⟨rfl, HBW.out⟩
end Go.Proofs.Ytmfchlbafpkgaaa
namespace Go.Proofs.Ytmfchlbafpkgaaa
open Go.RowKit Go.Shelf

/-- A row of states, read. -/
theorem sts_of' {w : World} {base : Nat} {vs : Value} {xs : List (Value × DSt)} (hs : SRow w base vs xs) (ha : ∀ x ∈ xs, Arcs w x.1 x.2.arcs) : Sts w vs (xs.map (·.2)) := by
  rcases id hs.2 with ⟨rfl, h0⟩ | ⟨g, cap, cur, rfl, _, hg, _, _, _, ht⟩
  · refine ⟨none, 0, by simp at h0; simp [h0], fun i hi => ?_⟩
    simp at h0
    simp [h0] at hi
  · refine ⟨_, cap, by rw [List.length_map], fun i hi => ⟨g, 0, rfl, ?_⟩⟩
    have hi' : i < xs.length := by simpa using hi
    have h3 : ∀ c, c < 3 → w.cell? ⟨g, 0 + i * 3 + c, none⟩ = (stC xs[i])[c]? := fun c hc => by
      rw [Nat.zero_add, World.ownsRow.cellAt hs _ (by omega)]
      exact stsC_get xs i c hi' hc
    have e : stAt (xs.map (·.2)) i = xs[i].2 := by rw [stAt_lt hi]; simp
    rw [e]
    exact ⟨xs[i].1, h3 0 (by omega), h3 1 (by omega), h3 2 (by omega), ha _ (List.getElem_mem hi')⟩

theorem arcs_nil (W : World) : Arcs W (.slice none 0 0) [] := ⟨none, 0, rfl, fun i hi => by simp at hi⟩
theorem Arcs.next {W : World} {v : Value} {l : List DArc} {o : Obj} (h : Arcs W v l) : Arcs (W.alloc o) v l := h.below (below_alloc W o)
theorem Sts.next {W : World} {v : Value} {l : List DSt} {o : Obj} (h : Sts W v l) : Sts (W.alloc o) v l := h.below (below_alloc W o)

/-- Rows just written out. -/
theorem arcs_lit {W : World} {g : Nat} (l : List DArc) (hl : l.length ≤ 100000) (hg : g = W.heap.size) : Arcs (W.alloc (.cells (arcsC l).toArray 93)) (.slice (some ⟨g, 0, none⟩) l.length l.length) l := by
  subst hg
  refine ARow.arcs (base := 0) ⟨arcsC_length l, .inr ⟨W.heap.size, l.length, (arcsC l).toArray, rfl, Nat.zero_le _, heap_alloc_new W _, Nat.le_refl _, by unfold maxLen; omega, by simp [arcsC_length], ?_⟩⟩
  rw [← arcsC_length l]
  simp
theorem sts_lit {W : World} {g : Nat} (xs : List (Value × DSt)) (hl : xs.length ≤ 100000) (hg : g = W.heap.size) (ha : ∀ x ∈ xs, Arcs W x.1 x.2.arcs) : Sts (W.alloc (.cells (stsC xs).toArray 91)) (.slice (some ⟨g, 0, none⟩) xs.length xs.length) (xs.map (·.2)) := by
  subst hg
  refine sts_of' (base := 0) ⟨stsC_length xs, .inr ⟨W.heap.size, xs.length, (stsC xs).toArray, rfl, Nat.zero_le _, heap_alloc_new W _, Nat.le_refl _, by unfold maxLen; omega, by simp [stsC_length], ?_⟩⟩ fun x hx => (ha x hx).next
  rw [← stsC_length xs]
  simp
theorem ents_litg {W : World} {g : Nat} (l : List Ent) (hg : g = W.heap.size) : Ents (W.alloc (.cells (ents l).toArray 33)) (.slice (some ⟨g, 0, none⟩) l.length l.length) l := by
  subst hg
  exact ents_lit l W

set_option maxHeartbeats 1000000 in
set_option maxRecDepth 100000 in
theorem made_true {w : World} {v v2 : Value} {l : List Ent} {S : List DSt} {n : Nat} (hB : buildT l = (S, n)) (hr : rightT S n = true) (hgood : (checkE l).2 = 0) (hs : ShortE l) (hlen : l.length ≤ 250) (hw : ∀ e ∈ l, e.weight < 4294967296) (hv : Ents w v l) (h2 : Sts w v2 S) :
    Calls Try.prog 82 #[v, .agg #[v2, .int .u64 (n : Int)]] w fun e w' => e = .returned (.bool true) ∧ Below w.heap.size w w' := by
  obtain ⟨ad2, c2, rfl, hc2⟩ := h2
  have h2 : Sts w (.slice ad2 S.length c2) S := ⟨ad2, c2, rfl, hc2⟩
  have hb0 := below_alloc w (.cells #[.slice ad2 S.length c2, .int .u64 (n : Int)] 65)
  have Q := Lib.hid (build_any l v _ (hv.below hb0) hs hlen hgood hw)
  have H2 := Lib.hid h2
  have HB0 := Lib.hid hb0
  have HR := Lib.hid hr
  have HBT := Lib.hid hB
  have hbx := heap_alloc_new w (.cells #[.slice ad2 S.length c2, .int .u64 (n : Int)] 65)
  clear hc2 h2 hb0 hv hs hgood hw hr hB
  go_enter Try.func82, Try.ntmps82
  go_wp2_with (first
    | (go_at_call 34
       (with_reducible refine Q.out.mono ?_)
       go_loud (
       rintro e' w1 ⟨vs, rfl, s1, s2, s3, s4, s5⟩
       rw [HBT.out] at s1 s2 s3 s4
       have eb2 : ((buildT l).2 : Int) = (n : Int) := by rw [HBT.out]
       obtain ⟨ad3, c3, rfl, hc3⟩ := s1
       have HS1 : Hid (Sts w1 (.slice ad3 S.length c3) S) := Lib.hid ⟨ad3, c3, rfl, hc3⟩
       have hx1 := (s5.block w.heap.size (by simp)).trans hbx
       have hx2 := ((below_alloc w1 (.cells #[.slice ad3 S.length c3, .int .u64 (n : Int)] 65)).block w.heap.size (Array.getElem?_eq_some_iff.1 hx1).1).trans hx1
       have r0 : (w1.alloc (.cells #[.slice ad3 S.length c3, .int .u64 (n : Int)] 65)).cell? ⟨w.heap.size, 0, none⟩ = some (.slice ad2 S.length c2) := by rw [cell_of_row _ _ 0 _ _ _ hx2]; rfl
       have r1 : (w1.alloc (.cells #[.slice ad3 S.length c3, .int .u64 (n : Int)] 65)).cell? ⟨w.heap.size, 1, none⟩ = some (.int .u64 (n : Int)) := by rw [cell_of_row _ _ 1 _ _ _ hx2]; rfl
       have HB1 := Lib.hid (HB0.out.trans (s5.mono HB0.out.size))
       have HX := Lib.hid (And.intro s2 s3)
       have hb2 := below_alloc w1 (.cells #[.slice ad3 S.length c3, .int .u64 (n : Int)] 65)
       have HB2 := Lib.hid hb2
       have QS := Lib.hid (sameF_true (n := n) (HS1.out.below hb2) ((H2.out.below (HB0.out.trans (s5.mono HB0.out.size))).below hb2) s3 (fun x hx => Nat.le_trans (s2 x hx).2 (by omega)))
       have HY := Lib.hid (heap_alloc_new w1 (.cells #[.slice ad3 S.length c3, .int .u64 (n : Int)] 65))
       clear hc3 s2 s3 s4 s5 hx1 hx2 hb2))
    | (go_at_call 36
       (with_reducible refine QS.out.mono ?_)
       go_loud (
       rintro e' w3 ⟨rfl, hb3⟩
       have hy3 := (hb3.block w1.heap.size (by simp)).trans HY.out
       have q0 : w3.cell? ⟨w1.heap.size, 0, none⟩ = some (.slice ad3 S.length c3) := by rw [cell_of_row _ _ 0 _ _ _ hy3]; rfl
       have q1 : w3.cell? ⟨w1.heap.size, 1, none⟩ = some (.int .u64 (n : Int)) := by rw [cell_of_row _ _ 1 _ _ _ hy3]; rfl
       have HB3 := Lib.hid hb3
       have QR := Lib.hid (right_any (init := n) ((HS1.out.below HB2.out).below hb3) HX.out.2 (fun x hx => Nat.le_trans (HX.out.1 x hx).2 (by omega)) (fun x hx => (HX.out.1 x hx).1))
       clear hy3 hb3))
    | (go_at_call 37
       (with_reducible refine QR.out.mono ?_)
       rw [HR.out]
       rintro e' w4 ⟨rfl, hb4⟩
       have HB4 := Lib.hid hb4
       clear hb4))
  go_ret
  exact ⟨rfl, HB1.out.trans ((HB2.out.mono HB1.out.size).trans ((HB3.out.mono (Nat.le_trans HB1.out.size HB2.out.size)).trans (HB4.out.mono (Nat.le_trans HB1.out.size (Nat.le_trans HB2.out.size HB3.out.size)))))⟩
end Go.Proofs.Ytmfchlbafpkgaaa
namespace Go.Proofs.Ytmfchlbafpkgaaa
open Go.RowKit Go.Shelf

def bs1 (l : List UInt8) : ByteArray := ⟨l.toArray⟩
def endS : DSt := ⟨[], true, 0⟩
def noneS : DSt := ⟨[], false, 0⟩
def L1 : List Ent := [⟨⟨#[97]⟩, 4, false⟩]
def S1 : List DSt := [endS, ⟨[⟨97, 0, 0⟩], false, 0⟩]
def L2 : List Ent := [⟨⟨#[97]⟩, 0, false⟩, ⟨⟨#[98]⟩, 2, false⟩]
def S2 : List DSt := [endS, ⟨[⟨97, 0, 0⟩, ⟨98, 2, 0⟩], false, 0⟩]
def L3 : List Ent := [⟨⟨#[97]⟩, 0, false⟩, ⟨⟨#[97, 98]⟩, 0, true⟩]
def S3 : List DSt := [endS, ⟨[⟨98, 0, 0⟩], true, 1⟩, ⟨[⟨97, 0, 1⟩], false, 0⟩]
def LB : List Ent := [⟨⟨#[98, 97, 116]⟩, 0, false⟩, ⟨⟨#[98, 97, 116, 115]⟩, 0, false⟩, ⟨⟨#[99, 97, 116]⟩, 0, false⟩, ⟨⟨#[99, 97, 116, 115]⟩, 0, false⟩, ⟨⟨#[114, 97, 116]⟩, 0, false⟩, ⟨⟨#[114, 97, 116, 115]⟩, 0, false⟩]
def LO : List Ent := [⟨⟨#[98]⟩, 0, false⟩, ⟨⟨#[97]⟩, 0, false⟩]
def LE : List Ent := [⟨⟨#[]⟩, 0, false⟩]
def LG : List Ent := [⟨⟨#[97, 120]⟩, 6, false⟩, ⟨⟨#[98, 120]⟩, 4294967295, false⟩, ⟨⟨#[98, 121]⟩, 0, true⟩]
def SG : List DSt := [endS, ⟨[⟨120, 0, 0⟩], false, 0⟩, ⟨[⟨120, 4294967296, 0⟩, ⟨121, 0, 0⟩], false, 0⟩, ⟨[⟨97, 7, 1⟩, ⟨98, 0, 2⟩], false, 0⟩]

theorem kn_b0 : buildT [] = ([noneS], 0) := by kernel_rfl
theorem kn_b1 : buildT L1 = (S1, 5) := by kernel_rfl
theorem kn_b2 : buildT L2 = (S2, 1) := by kernel_rfl
theorem kn_b3 : buildT L3 = (S3, 0) := by kernel_rfl
theorem kn_bB : (buildT LB).1.length = 5 ∧ arcsN (buildT LB).1 = 6 := by decide +kernel
theorem kn_bG : buildT LG = (SG, 0) := by kernel_rfl
theorem kn_r0 : rightT [noneS] 0 = true := by kernel_rfl
theorem kn_r1 : rightT S1 5 = true := by kernel_rfl
theorem kn_r2 : rightT S2 1 = true := by kernel_rfl
theorem kn_r3 : rightT S3 0 = true := by kernel_rfl
theorem kn_c0 : (checkE []).2 = 0 := by kernel_rfl
theorem kn_c1 : (checkE L1).2 = 0 := by kernel_rfl
theorem kn_c2 : (checkE L2).2 = 0 := by kernel_rfl
theorem kn_c3 : (checkE L3).2 = 0 := by kernel_rfl
theorem kn_cB : (checkE LB).2 = 0 := by kernel_rfl
theorem kn_cG : (checkE LG).2 = 0 := by kernel_rfl
theorem kn_cO : (checkE LO).2 = 15 := by kernel_rfl
theorem kn_cE : (checkE LE).2 = 7 := by kernel_rfl

end Go.Proofs.Ytmfchlbafpkgaaa
namespace Go.Proofs.Ytmfchlbafpkgaaa
open Go.RowKit Go.Shelf

theorem short_of (l : List Ent) (h : ∀ x ∈ l, x.word.size ≤ 255) : ShortE l := fun x hx => Nat.le_trans (h x hx) (by omega)

theorem end_box {w1 : World} {b : Nat} (h : w1.heap[b]? = some (.cells #[.slice none 0 0, .bool true, .int .u64 0] 91 (0, 0))) :
    Hid (w1.heap[b]? = some (.cells #[.slice none 0 0, .bool true, .int .u64 0] 91 (0, 0))) ∧ (∀ o, (w1.alloc o).cell? ⟨b, 0, none⟩ = some (.slice none 0 0)) ∧ (∀ o, (w1.alloc o).cell? ⟨b, 1, none⟩ = some (.bool true)) ∧ ∀ o, (w1.alloc o).cell? ⟨b, 2, none⟩ = some (.int .u64 0) := by
  have hk : ∀ o, (w1.alloc o).heap[b]? = some (.cells #[.slice none 0 0, .bool true, .int .u64 0] 91 (0, 0)) := fun o => ((below_alloc w1 o).block _ (Array.getElem?_eq_some_iff.1 h).1).trans h
  exact ⟨Lib.hid h, fun o => by rw [cell_of_row _ _ 0 _ _ _ (hk o)]; rfl, fun o => by rw [cell_of_row _ _ 1 _ _ _ (hk o)]; rfl, fun o => by rw [cell_of_row _ _ 2 _ _ _ (hk o)]; rfl⟩

set_option maxHeartbeats 2000000 in
set_option maxRecDepth 100000 in
theorem works_any (w : World) : Calls Try.prog 43 #[] w fun e w' => e = .returned (.bool true) ∧ Below w.heap.size w w' := by
  have hE := heap_alloc_new w (.cells #[.slice none 0 0, .bool true, .int .u64 0] 91)
  have M0 : Hid (∀ (W : World) (v2 : Value), Sts W v2 [noneS] → Calls Try.prog 82 #[.slice none 0 0, .agg #[v2, .int .u64 0]] W fun e w' => e = .returned (.bool true) ∧ Below W.heap.size W w') := Lib.hid fun W v2 h => made_true (n := 0) kn_b0 kn_r0 kn_c0 (short_of _ (by decide)) (by decide) (by decide) (ents_nil W) h
  have M1 : Hid (∀ (W : World) (v v2 : Value), Ents W v L1 → Sts W v2 S1 → Calls Try.prog 82 #[v, .agg #[v2, .int .u64 5]] W fun e w' => e = .returned (.bool true) ∧ Below W.heap.size W w') := Lib.hid fun W v v2 h h2 => made_true (n := 5) kn_b1 kn_r1 kn_c1 (short_of _ (by decide)) (by decide) (by decide) h h2
  have M2 : Hid (∀ (W : World) (v v2 : Value), Ents W v L2 → Sts W v2 S2 → Calls Try.prog 82 #[v, .agg #[v2, .int .u64 1]] W fun e w' => e = .returned (.bool true) ∧ Below W.heap.size W w') := Lib.hid fun W v v2 h h2 => made_true (n := 1) kn_b2 kn_r2 kn_c2 (short_of _ (by decide)) (by decide) (by decide) h h2
  have M3 : Hid (∀ (W : World) (v v2 : Value), Ents W v L3 → Sts W v2 S3 → Calls Try.prog 82 #[v, .agg #[v2, .int .u64 0]] W fun e w' => e = .returned (.bool true) ∧ Below W.heap.size W w') := Lib.hid fun W v v2 h h2 => made_true (n := 0) kn_b3 kn_r3 kn_c3 (short_of _ (by decide)) (by decide) (by decide) h h2
  have HE := Lib.hid hE
  clear hE
  go_enter Try.func43, Try.ntmps43
  go_wp2_with (first
    | (go_at_call 82
       (with_reducible refine (M0.out _ _ ?_).mono ?_)
       · exact sts_lit [(_, noneS)] (by simp) (by simp) (List.forall_mem_cons.2 ⟨arcs_nil _, List.forall_mem_nil _⟩)
       go_loud (
       rintro e' w1 ⟨rfl, hb1⟩
       have hx1 : w1.heap[w.heap.size]? = some (.cells #[.slice none 0 0, .bool true, .int .u64 0] 91 (0, 0)) := (hb1.block _ (by simp; omega)).trans (((below_alloc _ _).block _ (by simp)).trans HE.out)
       obtain ⟨HX1, x0, x1, x2⟩ := end_box hx1
       have HB1 : Hid (Below w.heap.size w w1) := Lib.hid (((below_alloc w _).trans ((below_alloc _ _).mono (by simp))).trans (hb1.mono (by simp; omega)))
       clear hb1 hx1))
    | (go_at_call 82
       (with_reducible refine (M1.out _ _ _ ?_ ?_).mono ?_)
       · exact ents_alloc' (ents_alloc' (ents_litg L1 (by simp)))
       · exact sts_lit [(_, endS), (_, ⟨[⟨97, 0, 0⟩], false, 0⟩)] (by simp) (by simp) (List.forall_mem_cons.2 ⟨arcs_nil _, List.forall_mem_cons.2 ⟨arcs_lit [⟨97, 0, 0⟩] (by decide) (by simp), List.forall_mem_nil _⟩⟩)
       go_loud (
       rintro e' w2 ⟨rfl, hb2⟩
       have hb12 : Below w1.heap.size w1 w2 := (((below_alloc w1 _).trans ((below_alloc _ _).mono (by simp))).trans ((below_alloc _ _).mono (by simp; omega))).trans (hb2.mono (by simp; omega))
       obtain ⟨HX2, y0, y1, y2⟩ := end_box ((hb12.block _ (Array.getElem?_eq_some_iff.1 HX1.out).1).trans HX1.out)
       have HB2 := Lib.hid (HB1.out.trans (hb12.mono HB1.out.size))
       clear x0 x1 x2 hb2 hb12))
    | (go_at_call 82
       (with_reducible refine (M2.out _ _ _ ?_ ?_).mono ?_)
       · exact ents_alloc' (ents_alloc' (ents_litg L2 (by simp)))
       · exact sts_lit [(_, endS), (_, ⟨[⟨97, 0, 0⟩, ⟨98, 2, 0⟩], false, 0⟩)] (by simp) (by simp) (List.forall_mem_cons.2 ⟨arcs_nil _, List.forall_mem_cons.2 ⟨arcs_lit [⟨97, 0, 0⟩, ⟨98, 2, 0⟩] (by decide) (by simp), List.forall_mem_nil _⟩⟩)
       go_loud (
       rintro e' w3 ⟨rfl, hb3⟩
       have hb23 : Below w2.heap.size w2 w3 := (((below_alloc w2 _).trans ((below_alloc _ _).mono (by simp))).trans ((below_alloc _ _).mono (by simp; omega))).trans (hb3.mono (by simp; omega))
       obtain ⟨HX3, z0, z1, z2⟩ := end_box ((hb23.block _ (Array.getElem?_eq_some_iff.1 HX2.out).1).trans HX2.out)
       have HB3 := Lib.hid (HB2.out.trans (hb23.mono HB2.out.size))
       clear y0 y1 y2 hb3 hb23))
    | (go_at_call 82
       (with_reducible refine (M3.out _ _ _ ?_ ?_).mono ?_)
       · exact ents_alloc' (ents_alloc' (ents_alloc' (ents_litg L3 (by simp))))
       · exact sts_lit [(_, endS), (_, ⟨[⟨98, 0, 0⟩], true, 1⟩), (_, ⟨[⟨97, 0, 1⟩], false, 0⟩)] (by simp) (by simp) (List.forall_mem_cons.2 ⟨arcs_nil _, List.forall_mem_cons.2 ⟨(arcs_lit [⟨98, 0, 0⟩] (by decide) (by simp)).next, List.forall_mem_cons.2 ⟨arcs_lit [⟨97, 0, 1⟩] (by decide) (by simp), List.forall_mem_nil _⟩⟩⟩)
       go_loud (
       rintro e' w4 ⟨rfl, hb4⟩
       have HB4 : Hid (Below w3.heap.size w3 w4) := Lib.hid ((((below_alloc w3 _).trans ((below_alloc _ _).mono (by simp))).trans ((below_alloc _ _).mono (by simp; omega))).trans (((below_alloc _ _).mono (by simp; omega)).trans (hb4.mono (by simp; omega))))
       clear hb4)))
  go_ret
  exact ⟨rfl, HB3.out.trans (HB4.out.mono HB3.out.size)⟩
end Go.Proofs.Ytmfchlbafpkgaaa
namespace Go.Proofs.Ytmfchlbafpkgaaa
open Go.RowKit Go.Shelf

def allocs (w : World) (l : List Obj) : World := l.foldl World.alloc w
theorem allocs_cons (w : World) (o : Obj) (l : List Obj) : allocs w (o :: l) = allocs (w.alloc o) l := rfl
theorem allocs_heap : ∀ (l : List Obj) (w : World), (allocs w l).heap = w.heap ++ l.toArray
  | [], w => by simp [allocs]
  | o :: l, w => by
    show (allocs (w.alloc o) l).heap = _
    rw [allocs_heap l]
    simp [World.alloc, -World.alloc_eq]
theorem allocs_get {w : World} {l : List Obj} {k : Nat} {o : Obj} (h : l[k]? = some o) : (allocs w l).heap[w.heap.size + k]? = some o := by
  rw [allocs_heap, Array.getElem?_append_right (by omega)]
  simpa using h
theorem allocs_below : ∀ (l : List Obj) (w : World), Below w.heap.size w (allocs w l)
  | [], w => Below.refl _ _
  | o :: l, w => (below_alloc w o).trans ((allocs_below l (w.alloc o)).mono (by simp))

theorem arcs_at {W : World} {g : Nat} (l : List DArc) (hl : l.length ≤ 100000) (h : W.heap[g]? = some (.cells (arcsC l).toArray 93 (0, 0))) : Arcs W (.slice (some ⟨g, 0, none⟩) l.length l.length) l := by
  refine ARow.arcs (base := 0) ⟨arcsC_length l, .inr ⟨g, l.length, (arcsC l).toArray, rfl, Nat.zero_le _, h, Nat.le_refl _, by unfold maxLen; omega, by simp [arcsC_length], ?_⟩⟩
  rw [← arcsC_length l]
  simp
theorem sts_at {W : World} {g : Nat} (xs : List (Value × DSt)) (hl : xs.length ≤ 100000) (h : W.heap[g]? = some (.cells (stsC xs).toArray 91 (0, 0))) (ha : ∀ x ∈ xs, Arcs W x.1 x.2.arcs) : Sts W (.slice (some ⟨g, 0, none⟩) xs.length xs.length) (xs.map (·.2)) := by
  refine sts_of' (base := 0) ⟨stsC_length xs, .inr ⟨g, xs.length, (stsC xs).toArray, rfl, Nat.zero_le _, h, Nat.le_refl _, by unfold maxLen; omega, by simp [stsC_length], ?_⟩⟩ ha
  rw [← stsC_length xs]
  simp

/-- Transducers that are read, in a row. -/
def Bads (W : World) (b : Nat) (xs : List (Value × List DSt × Nat)) : Prop := ∀ k (h : k < xs.length), W.cell? ⟨b, k * 2, none⟩ = some xs[k].1 ∧ W.cell? ⟨b, k * 2 + 1, none⟩ = some (.int .u64 (xs[k].2.2 : Int)) ∧ Sts W xs[k].1 xs[k].2.1
theorem Bads.below {W W' : World} {b : Nat} {xs : List (Value × List DSt × Nat)} (h : Bads W b xs) (hb : Below W.heap.size W W') : Bads W' b xs := fun k hk => by
  obtain ⟨h1, h2, h3⟩ := h k hk
  exact ⟨(cell_same (hb.block b (block_lt_of_cell h1))).trans h1, (cell_same (hb.block b (block_lt_of_cell h2))).trans h2, h3.below hb⟩

/-- What the law lays. -/
def objsK (n : Nat) : List Obj := [
  .cells #[.slice none 0 0, .bool true, .int .u64 0] 91,
  .cells #[.int .u8 97, .int .u64 0, .int .i64 0] 93,
  .cells #[.slice none 0 0, .bool false, .int .u64 0, .slice none 0 0, .bool false, .int .u64 0] 91,
  .cells #[.slice none 0 0, .bool false, .int .u64 0] 91,
  .cells #[.slice none 0 0, .bool false, .int .u64 1] 91,
  .cells #[.slice none 0 0, .bool true, .int .u64 1] 91,
  .cells #[.int .u8 97, .int .u64 1, .int .i64 0] 93,
  .cells #[.slice none 0 0, .bool true, .int .u64 0, .slice (some ⟨n + 1 + 1 + 1 + 1 + 1 + 1 + 1, 0, none⟩) 1 1, .bool false, .int .u64 0] 91,
  .cells #[.slice none 0 0, .bool true, .int .u64 0, .slice none 0 0, .bool true, .int .u64 0, .slice (some ⟨n + 1 + 1, 0, none⟩) 1 1, .bool false, .int .u64 0] 91,
  .cells #[.int .u8 97, .int .u64 0, .int .i64 1] 93,
  .cells #[.slice none 0 0, .bool true, .int .u64 0, .slice (some ⟨n + 1 + 1 + 1 + 1 + 1 + 1 + 1 + 1 + 1 + 1, 0, none⟩) 1 1, .bool false, .int .u64 0] 91,
  .cells #[.slice none 0 0, .bool false, .int .u64 0, .slice (some ⟨n + 1 + 1, 0, none⟩) 1 1, .bool false, .int .u64 0] 91,
  .cells #[.int .u8 98, .int .u64 0, .int .i64 0, .int .u8 97, .int .u64 0, .int .i64 0] 93,
  .cells #[.slice none 0 0, .bool true, .int .u64 0, .slice (some ⟨n + 1 + 1 + 1 + 1 + 1 + 1 + 1 + 1 + 1 + 1 + 1 + 1 + 1, 0, none⟩) 2 2, .bool false, .int .u64 0] 91,
  .cells #[.int .u8 97, .int .u64 0, .int .i64 0, .int .u8 97, .int .u64 0, .int .i64 0] 93,
  .cells #[.slice none 0 0, .bool true, .int .u64 0, .slice (some ⟨n + 1 + 1 + 1 + 1 + 1 + 1 + 1 + 1 + 1 + 1 + 1 + 1 + 1 + 1 + 1, 0, none⟩) 2 2, .bool false, .int .u64 0] 91,
  .cells #[.int .u8 97, .int .u64 0, .int .i64 (-1)] 93,
  .cells #[.slice none 0 0, .bool true, .int .u64 0, .slice (some ⟨n + 1 + 1 + 1 + 1 + 1 + 1 + 1 + 1 + 1 + 1 + 1 + 1 + 1 + 1 + 1 + 1 + 1, 0, none⟩) 1 1, .bool false, .int .u64 0] 91,
  .cells #[.int .u8 120, .int .u64 0, .int .i64 2, .int .u8 121, .int .u64 0, .int .i64 1] 93,
  .cells #[.slice none 0 0, .bool true, .int .u64 0, .slice (some ⟨n + 1 + 1, 0, none⟩) 1 1, .bool false, .int .u64 0, .slice (some ⟨n + 1 + 1, 0, none⟩) 1 1, .bool true, .int .u64 0, .slice (some ⟨n + 1 + 1 + 1 + 1 + 1 + 1 + 1 + 1 + 1 + 1 + 1 + 1 + 1 + 1 + 1 + 1 + 1 + 1 + 1, 0, none⟩) 2 2, .bool false, .int .u64 0] 91,
  .cells #[.slice none 0 0, .int .u64 0, .slice (some ⟨n + 1 + 1 + 1, 0, none⟩) 2 2, .int .u64 0, .slice (some ⟨n + 1 + 1 + 1 + 1, 0, none⟩) 1 1, .int .u64 1, .slice (some ⟨n + 1 + 1 + 1 + 1 + 1, 0, none⟩) 1 1, .int .u64 0, .slice (some ⟨n + 1 + 1 + 1 + 1 + 1 + 1, 0, none⟩) 1 1, .int .u64 0, .slice (some ⟨n + 1 + 1 + 1 + 1 + 1 + 1 + 1 + 1, 0, none⟩) 2 2, .int .u64 0, .slice (some ⟨n + 1 + 1 + 1 + 1 + 1 + 1 + 1 + 1 + 1, 0, none⟩) 3 3, .int .u64 0, .slice (some ⟨n + 1 + 1 + 1 + 1 + 1 + 1 + 1 + 1 + 1 + 1 + 1, 0, none⟩) 2 2, .int .u64 0, .slice (some ⟨n + 1 + 1 + 1 + 1 + 1 + 1 + 1 + 1 + 1 + 1 + 1 + 1, 0, none⟩) 2 2, .int .u64 0, .slice (some ⟨n + 1 + 1 + 1 + 1 + 1 + 1 + 1 + 1 + 1 + 1 + 1 + 1 + 1 + 1, 0, none⟩) 2 2, .int .u64 0, .slice (some ⟨n + 1 + 1 + 1 + 1 + 1 + 1 + 1 + 1 + 1 + 1 + 1 + 1 + 1 + 1 + 1 + 1, 0, none⟩) 2 2, .int .u64 0, .slice (some ⟨n + 1 + 1 + 1 + 1 + 1 + 1 + 1 + 1 + 1 + 1 + 1 + 1 + 1 + 1 + 1 + 1 + 1 + 1, 0, none⟩) 2 2, .int .u64 0, .slice (some ⟨n + 1 + 1 + 1 + 1 + 1 + 1 + 1 + 1 + 1 + 1 + 1 + 1 + 1 + 1 + 1 + 1 + 1 + 1 + 1 + 1, 0, none⟩) 4 4, .int .u64 0] 65]
def badL (n : Nat) : List (Value × List DSt × Nat) := [
  (.slice none 0 0, [], 0),
  (.slice (some ⟨n + 1 + 1 + 1, 0, none⟩) 2 2, [⟨[], false, 0⟩, ⟨[], false, 0⟩], 0),
  (.slice (some ⟨n + 1 + 1 + 1 + 1, 0, none⟩) 1 1, [⟨[], false, 0⟩], 1),
  (.slice (some ⟨n + 1 + 1 + 1 + 1 + 1, 0, none⟩) 1 1, [⟨[], false, 1⟩], 0),
  (.slice (some ⟨n + 1 + 1 + 1 + 1 + 1 + 1, 0, none⟩) 1 1, [⟨[], true, 1⟩], 0),
  (.slice (some ⟨n + 1 + 1 + 1 + 1 + 1 + 1 + 1 + 1, 0, none⟩) 2 2, [⟨[], true, 0⟩, ⟨[⟨97, 1, 0⟩], false, 0⟩], 0),
  (.slice (some ⟨n + 1 + 1 + 1 + 1 + 1 + 1 + 1 + 1 + 1, 0, none⟩) 3 3, [⟨[], true, 0⟩, ⟨[], true, 0⟩, ⟨[⟨97, 0, 0⟩], false, 0⟩], 0),
  (.slice (some ⟨n + 1 + 1 + 1 + 1 + 1 + 1 + 1 + 1 + 1 + 1 + 1, 0, none⟩) 2 2, [⟨[], true, 0⟩, ⟨[⟨97, 0, 1⟩], false, 0⟩], 0),
  (.slice (some ⟨n + 1 + 1 + 1 + 1 + 1 + 1 + 1 + 1 + 1 + 1 + 1 + 1, 0, none⟩) 2 2, [⟨[], false, 0⟩, ⟨[⟨97, 0, 0⟩], false, 0⟩], 0),
  (.slice (some ⟨n + 1 + 1 + 1 + 1 + 1 + 1 + 1 + 1 + 1 + 1 + 1 + 1 + 1 + 1, 0, none⟩) 2 2, [⟨[], true, 0⟩, ⟨[⟨98, 0, 0⟩, ⟨97, 0, 0⟩], false, 0⟩], 0),
  (.slice (some ⟨n + 1 + 1 + 1 + 1 + 1 + 1 + 1 + 1 + 1 + 1 + 1 + 1 + 1 + 1 + 1 + 1, 0, none⟩) 2 2, [⟨[], true, 0⟩, ⟨[⟨97, 0, 0⟩, ⟨97, 0, 0⟩], false, 0⟩], 0),
  (.slice (some ⟨n + 1 + 1 + 1 + 1 + 1 + 1 + 1 + 1 + 1 + 1 + 1 + 1 + 1 + 1 + 1 + 1 + 1 + 1, 0, none⟩) 2 2, [⟨[], true, 0⟩, ⟨[⟨97, 0, -1⟩], false, 0⟩], 0),
  (.slice (some ⟨n + 1 + 1 + 1 + 1 + 1 + 1 + 1 + 1 + 1 + 1 + 1 + 1 + 1 + 1 + 1 + 1 + 1 + 1 + 1 + 1, 0, none⟩) 4 4, [⟨[], true, 0⟩, ⟨[⟨97, 0, 0⟩], false, 0⟩, ⟨[⟨97, 0, 0⟩], true, 0⟩, ⟨[⟨120, 0, 2⟩, ⟨121, 0, 1⟩], false, 0⟩], 0)]

theorem bad_rights (n : Nat) : ∀ x ∈ badL n, rightT x.2.1 x.2.2 = false ∧ x.2.1.length ≤ 100000 ∧ (∀ s ∈ x.2.1, s.arcs.length ≤ 100000) ∧ ∀ s ∈ x.2.1, s.ok := by
  have h : (badL n).map (·.2) = (badL 0).map (·.2) := rfl
  have h0 : ∀ y ∈ (badL 0).map (·.2), rightT y.1 y.2 = false ∧ y.1.length ≤ 100000 ∧ (∀ s ∈ y.1, s.arcs.length ≤ 100000) ∧ ∀ s ∈ y.1, s.ok := by decide +kernel
  intro x hx
  exact h0 x.2 (by rw [← h]; exact List.mem_map.2 ⟨x, hx, rfl⟩)

theorem bads_in (w : World) (o : Obj) : Bads (allocs w (o :: objsK w.heap.size)) (w.heap.size + 1 + 1 + 1 + 1 + 1 + 1 + 1 + 1 + 1 + 1 + 1 + 1 + 1 + 1 + 1 + 1 + 1 + 1 + 1 + 1 + 1) (badL w.heap.size) := by
  obtain ⟨n, hn⟩ : ∃ n, n = w.heap.size := ⟨_, rfl⟩
  have hk : ∀ k ob, (o :: objsK n)[k]? = some ob → (allocs w (o :: objsK n)).heap[n + k]? = some ob := fun k ob h => by rw [hn]; exact allocs_get (by rw [← hn]; exact h)
  rw [← hn]
  obtain ⟨W, hW⟩ : ∃ W, W = allocs w (o :: objsK n) := ⟨_, rfl⟩
  rw [← hW] at hk ⊢
  clear hW
  have a2 := arcs_at [⟨97, 0, 0⟩] (by decide) (hk 2 _ rfl)
  have a7 := arcs_at [⟨97, 1, 0⟩] (by decide) (hk 7 _ rfl)
  have a10 := arcs_at [⟨97, 0, 1⟩] (by decide) (hk 10 _ rfl)
  have a13 := arcs_at [⟨98, 0, 0⟩, ⟨97, 0, 0⟩] (by decide) (hk 13 _ rfl)
  have a15 := arcs_at [⟨97, 0, 0⟩, ⟨97, 0, 0⟩] (by decide) (hk 15 _ rfl)
  have a17 := arcs_at [⟨97, 0, -1⟩] (by decide) (hk 17 _ rfl)
  have a19 := arcs_at [⟨120, 0, 2⟩, ⟨121, 0, 1⟩] (by decide) (hk 19 _ rfl)
  have s3 := sts_at [(.slice none 0 0, ⟨[], false, 0⟩), (.slice none 0 0, ⟨[], false, 0⟩)] (by simp) (hk 3 _ rfl) (List.forall_mem_cons.2 ⟨arcs_nil _, List.forall_mem_cons.2 ⟨arcs_nil _, List.forall_mem_nil _⟩⟩)
  have s4 := sts_at [(.slice none 0 0, ⟨[], false, 0⟩)] (by simp) (hk 4 _ rfl) (List.forall_mem_cons.2 ⟨arcs_nil _, List.forall_mem_nil _⟩)
  have s5 := sts_at [(.slice none 0 0, ⟨[], false, 1⟩)] (by simp) (hk 5 _ rfl) (List.forall_mem_cons.2 ⟨arcs_nil _, List.forall_mem_nil _⟩)
  have s6 := sts_at [(.slice none 0 0, ⟨[], true, 1⟩)] (by simp) (hk 6 _ rfl) (List.forall_mem_cons.2 ⟨arcs_nil _, List.forall_mem_nil _⟩)
  have s8 := sts_at [(.slice none 0 0, ⟨[], true, 0⟩), (.slice (some ⟨n + 1 + 1 + 1 + 1 + 1 + 1 + 1, 0, none⟩) 1 1, ⟨[⟨97, 1, 0⟩], false, 0⟩)] (by simp) (hk 8 _ rfl) (List.forall_mem_cons.2 ⟨arcs_nil _, List.forall_mem_cons.2 ⟨a7, List.forall_mem_nil _⟩⟩)
  have s9 := sts_at [(.slice none 0 0, ⟨[], true, 0⟩), (.slice none 0 0, ⟨[], true, 0⟩), (.slice (some ⟨n + 1 + 1, 0, none⟩) 1 1, ⟨[⟨97, 0, 0⟩], false, 0⟩)] (by simp) (hk 9 _ rfl) (List.forall_mem_cons.2 ⟨arcs_nil _, List.forall_mem_cons.2 ⟨arcs_nil _, List.forall_mem_cons.2 ⟨a2, List.forall_mem_nil _⟩⟩⟩)
  have s11 := sts_at [(.slice none 0 0, ⟨[], true, 0⟩), (.slice (some ⟨n + 1 + 1 + 1 + 1 + 1 + 1 + 1 + 1 + 1 + 1, 0, none⟩) 1 1, ⟨[⟨97, 0, 1⟩], false, 0⟩)] (by simp) (hk 11 _ rfl) (List.forall_mem_cons.2 ⟨arcs_nil _, List.forall_mem_cons.2 ⟨a10, List.forall_mem_nil _⟩⟩)
  have s12 := sts_at [(.slice none 0 0, ⟨[], false, 0⟩), (.slice (some ⟨n + 1 + 1, 0, none⟩) 1 1, ⟨[⟨97, 0, 0⟩], false, 0⟩)] (by simp) (hk 12 _ rfl) (List.forall_mem_cons.2 ⟨arcs_nil _, List.forall_mem_cons.2 ⟨a2, List.forall_mem_nil _⟩⟩)
  have s14 := sts_at [(.slice none 0 0, ⟨[], true, 0⟩), (.slice (some ⟨n + 1 + 1 + 1 + 1 + 1 + 1 + 1 + 1 + 1 + 1 + 1 + 1 + 1, 0, none⟩) 2 2, ⟨[⟨98, 0, 0⟩, ⟨97, 0, 0⟩], false, 0⟩)] (by simp) (hk 14 _ rfl) (List.forall_mem_cons.2 ⟨arcs_nil _, List.forall_mem_cons.2 ⟨a13, List.forall_mem_nil _⟩⟩)
  have s16 := sts_at [(.slice none 0 0, ⟨[], true, 0⟩), (.slice (some ⟨n + 1 + 1 + 1 + 1 + 1 + 1 + 1 + 1 + 1 + 1 + 1 + 1 + 1 + 1 + 1, 0, none⟩) 2 2, ⟨[⟨97, 0, 0⟩, ⟨97, 0, 0⟩], false, 0⟩)] (by simp) (hk 16 _ rfl) (List.forall_mem_cons.2 ⟨arcs_nil _, List.forall_mem_cons.2 ⟨a15, List.forall_mem_nil _⟩⟩)
  have s18 := sts_at [(.slice none 0 0, ⟨[], true, 0⟩), (.slice (some ⟨n + 1 + 1 + 1 + 1 + 1 + 1 + 1 + 1 + 1 + 1 + 1 + 1 + 1 + 1 + 1 + 1 + 1, 0, none⟩) 1 1, ⟨[⟨97, 0, -1⟩], false, 0⟩)] (by simp) (hk 18 _ rfl) (List.forall_mem_cons.2 ⟨arcs_nil _, List.forall_mem_cons.2 ⟨a17, List.forall_mem_nil _⟩⟩)
  have s20 := sts_at [(.slice none 0 0, ⟨[], true, 0⟩), (.slice (some ⟨n + 1 + 1, 0, none⟩) 1 1, ⟨[⟨97, 0, 0⟩], false, 0⟩), (.slice (some ⟨n + 1 + 1, 0, none⟩) 1 1, ⟨[⟨97, 0, 0⟩], true, 0⟩), (.slice (some ⟨n + 1 + 1 + 1 + 1 + 1 + 1 + 1 + 1 + 1 + 1 + 1 + 1 + 1 + 1 + 1 + 1 + 1 + 1 + 1, 0, none⟩) 2 2, ⟨[⟨120, 0, 2⟩, ⟨121, 0, 1⟩], false, 0⟩)] (by simp) (hk 20 _ rfl) (List.forall_mem_cons.2 ⟨arcs_nil _, List.forall_mem_cons.2 ⟨a2, List.forall_mem_cons.2 ⟨a2, List.forall_mem_cons.2 ⟨a19, List.forall_mem_nil _⟩⟩⟩⟩)
  have hc : ∀ j v, (match ((o :: objsK n)[21]? : Option Obj) with | some (Obj.cells cs _ _) => cs[j]? | _ => none) = some v → W.cell? ⟨n + 1 + 1 + 1 + 1 + 1 + 1 + 1 + 1 + 1 + 1 + 1 + 1 + 1 + 1 + 1 + 1 + 1 + 1 + 1 + 1 + 1, j, none⟩ = some v := fun j v h => by
    rw [cell_of_row W _ j _ _ _ (hk 21 _ rfl)]
    exact h
  intro k h
  have h13 : k < 13 := h
  match k, h13 with
  | 0, _ => exact ⟨hc 0 _ rfl, hc 1 _ rfl, ⟨none, 0, rfl, fun i hi => absurd hi (Nat.not_lt_zero i)⟩⟩
  | 1, _ => exact ⟨hc 2 _ rfl, hc 3 _ rfl, s3⟩
  | 2, _ => exact ⟨hc 4 _ rfl, hc 5 _ rfl, s4⟩
  | 3, _ => exact ⟨hc 6 _ rfl, hc 7 _ rfl, s5⟩
  | 4, _ => exact ⟨hc 8 _ rfl, hc 9 _ rfl, s6⟩
  | 5, _ => exact ⟨hc 10 _ rfl, hc 11 _ rfl, s8⟩
  | 6, _ => exact ⟨hc 12 _ rfl, hc 13 _ rfl, s9⟩
  | 7, _ => exact ⟨hc 14 _ rfl, hc 15 _ rfl, s11⟩
  | 8, _ => exact ⟨hc 16 _ rfl, hc 17 _ rfl, s12⟩
  | 9, _ => exact ⟨hc 18 _ rfl, hc 19 _ rfl, s14⟩
  | 10, _ => exact ⟨hc 20 _ rfl, hc 21 _ rfl, s16⟩
  | 11, _ => exact ⟨hc 22 _ rfl, hc 23 _ rfl, s18⟩
  | 12, _ => exact ⟨hc 24 _ rfl, hc 25 _ rfl, s20⟩

end Go.Proofs.Ytmfchlbafpkgaaa
namespace Go.Proofs.Ytmfchlbafpkgaaa
open Go.RowKit Go.Shelf

/-- What Build leaves, with its shape. -/
theorem build_lit {l : List Ent} {S : List DSt} {n : Nat} (hB : buildT l = (S, n)) (hgood : (checkE l).2 = 0) (hs : ShortE l) (hlen : l.length ≤ 250) (hw : ∀ e ∈ l, e.weight < 4294967296) {w : World} {v : Value} (hv : Ents w v l) :
    Calls Try.prog 34 #[v] w fun e w' => ∃ ad c, e = .returned (.tuple #[.agg #[.slice ad S.length c, .int .u64 (n : Int)], .int .i64 0]) ∧ Sts w' (.slice ad S.length c) S ∧ Below w.heap.size w w' := by
  refine (build_any l v w hv hs hlen hgood hw).mono ?_
  rintro e w' ⟨vs, rfl, h1, h2, h3, h4, h5⟩
  rw [hB] at h1 ⊢
  obtain ⟨ad, c, rfl, hc⟩ := h1
  exact ⟨ad, c, rfl, ⟨ad, c, rfl, hc⟩, h5⟩
def SB : List DSt := (buildT LB).1
def nB : Nat := (buildT LB).2
theorem kn_eB : buildT LB = (SB, nB) := rfl
theorem kn_sB : SB.length = 5 := kn_bB.1
theorem kn_aB : arcsN SB = 6 := kn_bB.2
theorem kn_wB : ∀ s ∈ SB, s.arcs.length ≤ 100000 := by decide +kernel

/-- What is looked at in the transducer g. -/
def GIn (W : World) (b3 o3 : Nat) (b4 o4 c4 b5 o5 c5 : Nat) : Prop :=
  W.cell? ⟨b3, o3 + 9, none⟩ = some (.slice (some ⟨b4, o4, none⟩) 2 c4) ∧ W.cell? ⟨b3, o3 + 6, none⟩ = some (.slice (some ⟨b5, o5, none⟩) 2 c5) ∧ W.cell? ⟨b4, o4 + 1, none⟩ = some (.int .u64 7) ∧ W.cell? ⟨b4, o4 + 4, none⟩ = some (.int .u64 0) ∧ W.cell? ⟨b5, o5 + 1, none⟩ = some (.int .u64 4294967296)
theorem g_in {W : World} {ad : Option Addr} {c : Nat} (h : Sts W (.slice ad 4 c) SG) : ∃ b3 o3, ad = some ⟨b3, o3, none⟩ ∧ ∃ b4 o4 c4 b5 o5 c5, GIn W b3 o3 b4 o4 c4 b5 o5 c5 := by
  obtain ⟨ad', c', hv, hc⟩ := h
  injection hv with e1 e2 e3
  subst e1
  obtain ⟨b3, o3, had, v3, h1, -, -, ad4, c4, rfl, hA⟩ := hc 3 (by decide)
  obtain ⟨b3', o3', had', v2, h2, -, -, ad5, c5, rfl, hB⟩ := hc 2 (by decide)
  obtain ⟨b4, o4, rfl, hA0⟩ := hA 0 (by decide)
  obtain ⟨b4', o4', h4, hA1⟩ := hA 1 (by decide)
  cases h4
  obtain ⟨b5, o5, rfl, hB0⟩ := hB 0 (by decide)
  rw [had] at had'
  cases had'
  exact ⟨b3, o3, had, b4, o4, c4, b5, o5, c5, h1, h2, hA0.2.1, hA1.2.1, hB0.2.1⟩
theorem GIn.below {W W' : World} {b3 o3 b4 o4 c4 b5 o5 c5 : Nat} (h : GIn W b3 o3 b4 o4 c4 b5 o5 c5) (hb : Below W.heap.size W W') : GIn W' b3 o3 b4 o4 c4 b5 o5 c5 := by
  obtain ⟨h1, h2, h3, h4, h5⟩ := h
  exact ⟨(cell_same (hb.block _ (block_lt_of_cell h1))).trans h1, (cell_same (hb.block _ (block_lt_of_cell h2))).trans h2, (cell_same (hb.block _ (block_lt_of_cell h3))).trans h3, (cell_same (hb.block _ (block_lt_of_cell h4))).trans h4, (cell_same (hb.block _ (block_lt_of_cell h5))).trans h5⟩

set_option maxHeartbeats 4000000 in
set_option maxRecDepth 100000 in
theorem known_walk (w : World) : Calls Try.prog 8 #[] w fun e w' => e = .returned (.bool true) ∧ Below w.heap.size w w' := by
  have BB : Hid (∀ (W : World) (v : Value), Ents W v LB → Calls Try.prog 34 #[v] W fun e w' => ∃ ad c, e = .returned (.tuple #[.agg #[.slice ad 5 c, .int .u64 (nB : Int)], .int .i64 0]) ∧ Sts w' (.slice ad 5 c) SB ∧ Below W.heap.size W w') := Lib.hid fun W v h => by have := build_lit kn_eB kn_cB (short_of _ (by decide)) (by decide) (by decide) h; rwa [kn_sB] at this
  have BG : Hid (∀ (W : World) (v : Value), Ents W v LG → Calls Try.prog 34 #[v] W fun e w' => ∃ ad c, e = .returned (.tuple #[.agg #[.slice ad 4 c, .int .u64 0], .int .i64 0]) ∧ Sts w' (.slice ad 4 c) SG ∧ Below W.heap.size W w') := Lib.hid fun W v h => build_lit (n := 0) kn_bG kn_cG (short_of _ (by decide)) (by decide) (by decide) h
  have BO : Hid (∀ (W : World) (v : Value), Ents W v LO → Calls Try.prog 34 #[v] W fun e w' => e = .returned (.tuple #[.agg #[.slice none 0 0, .int .u64 0], .int .i64 15]) ∧ Below W.heap.size W w') := Lib.hid fun W v h => by have := build_bad LO v W h (short_of _ (by decide)) (by decide) (by rw [kn_cO]; decide); rwa [kn_cO] at this
  have BE : Hid (∀ (W : World) (v : Value), Ents W v LE → Calls Try.prog 34 #[v] W fun e w' => e = .returned (.tuple #[.agg #[.slice none 0 0, .int .u64 0], .int .i64 7]) ∧ Below W.heap.size W w') := Lib.hid fun W v h => by have := build_bad LE v W h (short_of _ (by decide)) (by decide) (by rw [kn_cE]; decide); rwa [kn_cE] at this
  have RE : Hid (∀ (W : World) (v2 : Value), Sts W v2 [endS] → Calls Try.prog 37 #[.agg #[v2, .int .u64 9]] W fun e w' => e = .returned (.bool true) ∧ Below W.heap.size W w') := Lib.hid fun W v2 h => by have := right_any (init := 9) h (by decide) (by decide) (by decide +kernel); rwa [show rightT [endS] 9 = true by kernel_rfl] at this
  have RN : Hid (∀ (W : World) (v2 : Value), Sts W v2 [noneS] → Calls Try.prog 37 #[.agg #[v2, .int .u64 0]] W fun e w' => e = .returned (.bool true) ∧ Below W.heap.size W w') := Lib.hid fun W v2 h => by have := right_any (init := 0) h (by decide) (by decide) (by decide +kernel); rwa [show rightT [noneS] 0 = true by kernel_rfl] at this
  go_enter Try.func8, Try.ntmps8
  go_wp2_with (first
    | (go_at_call 34
       (with_reducible refine (BB.out _ _ ?_).mono ?_)
       · exact ents_litg LB (by simp)
       go_loud (
       rintro e' w1 ⟨ad1, c1, rfl, s1, hb1⟩
       have hs2 : Sts (w1.alloc (.cells #[.slice ad1 5 c1, .int .u64 (nB : Int)] 65)) (.slice ad1 5 c1) SB := s1.next
       have QZ : Hid (Calls Try.prog 40 #[.agg #[.slice ad1 5 c1, .int .u64 (nB : Int)]] (w1.alloc (.cells #[.slice ad1 5 c1, .int .u64 (nB : Int)] 65)) fun e w' => e = .returned (.tuple #[.int .i64 5, .int .i64 6]) ∧ Below (w1.alloc (.cells #[.slice ad1 5 c1, .int .u64 (nB : Int)] 65)).heap.size (w1.alloc (.cells #[.slice ad1 5 c1, .int .u64 (nB : Int)] 65)) w') := Lib.hid (by have := size_any' (init := nB) hs2 (by rw [kn_sB]; decide) kn_wB; rwa [kn_sB, kn_aB] at this)
       have HB1 : Hid (Below w.heap.size w (w1.alloc (.cells #[.slice ad1 5 c1, .int .u64 (nB : Int)] 65))) := Lib.hid ((((below_alloc w _).trans (hb1.mono (by simp))).trans ((below_alloc w1 _).mono (by have := hb1.size; simp at this; omega))))
       clear s1 hs2 hb1))
    | (go_at_call 40
       (with_reducible refine QZ.out.mono ?_)
       go_loud (
       rintro e' w2 ⟨rfl, hb2⟩
       have HB2 := Lib.hid (HB1.out.trans (hb2.mono HB1.out.size))
       clear hb2))
    | (go_at_call 34
       (with_reducible refine (BO.out _ _ ?_).mono ?_)
       · exact ents_litg LO (by simp)
       go_loud (
       rintro e' w3 ⟨rfl, hb3⟩
       have HB3 : Hid (Below w.heap.size w (w3.alloc (.cells #[.slice none 0 0, .int .u64 0] 65))) := Lib.hid (HB2.out.trans ((((below_alloc w2 _).trans (hb3.mono (by simp))).trans ((below_alloc w3 _).mono (by have := hb3.size; simp at this; omega))).mono HB2.out.size))
       clear hb3))
    | (go_at_call 34
       (with_reducible refine (BE.out _ _ ?_).mono ?_)
       · exact ents_litg LE (by simp)
       go_loud (
       rintro e' w4 ⟨rfl, hb4⟩
       have HB4 : Hid (Below w.heap.size w (w4.alloc (.cells #[.slice none 0 0, .int .u64 0] 65))) := Lib.hid (HB3.out.trans ((((below_alloc _ _).trans (hb4.mono (by simp))).trans ((below_alloc w4 _).mono (by have := hb4.size; simp at this ⊢; omega))).mono HB3.out.size))
       clear hb4))
    | (go_at_call 34
       (with_reducible refine (BG.out _ _ ?_).mono ?_)
       · exact ents_litg LG (by simp)
       go_loud (
       rintro e' w5 ⟨ad5, c5, rfl, s5, hb5⟩
       have HS5 : Hid (Sts (w5.alloc (.cells #[.slice ad5 4 c5, .int .u64 0] 65)) (.slice ad5 4 c5) SG) := Lib.hid s5.next
       have HB5 : Hid (Below w.heap.size w (w5.alloc (.cells #[.slice ad5 4 c5, .int .u64 0] 65))) := Lib.hid (HB4.out.trans ((((below_alloc _ _).trans (hb5.mono (by simp))).trans ((below_alloc w5 _).mono (by have := hb5.size; simp at this ⊢; omega))).mono HB4.out.size))
       clear s5 hb5)))
  have hbad := bads_in w5 (.cells #[.slice ad5 4 c5, .int .u64 0] 65)
  obtain ⟨W, hW⟩ : ∃ W, W = allocs w5 (.cells #[.slice ad5 4 c5, .int .u64 0] 65 :: objsK w5.heap.size) := ⟨_, rfl⟩
  rw [← hW] at hbad
  have HBAD := Lib.hid hbad
  clear hbad
  have hb6 : Below (w5.alloc (.cells #[.slice ad5 4 c5, .int .u64 0] 65)).heap.size (w5.alloc (.cells #[.slice ad5 4 c5, .int .u64 0] 65)) W := by rw [hW, allocs_cons]; exact allocs_below (objsK w5.heap.size) (w5.alloc (.cells #[.slice ad5 4 c5, .int .u64 0] 65))
  have HBW := Lib.hid (HB5.out.trans (hb6.mono HB5.out.size))
  have HSW := Lib.hid (HS5.out.below hb6)
  have HGB : Hid (W.heap[w5.heap.size]? = some (.cells #[.slice ad5 4 c5, .int .u64 0] 65 (0, 0))) := Lib.hid ((hb6.block _ (by simp)).trans (heap_alloc_new w5 _))
  clear hb6
  simp only [allocs, objsK, List.foldl_cons, List.foldl_nil] at hW
  rw [← hW]
  clear hW
  obtain ⟨bF, hbF⟩ : ∃ bF, bF = w5.heap.size + 1 + 1 + 1 + 1 + 1 + 1 + 1 + 1 + 1 + 1 + 1 + 1 + 1 + 1 + 1 + 1 + 1 + 1 + 1 + 1 + 1 := ⟨_, rfl⟩
  rw [← hbF] at HBAD ⊢
  clear hbF
  obtain ⟨bg, hbg⟩ : ∃ bg, bg = w5.heap.size := ⟨_, rfl⟩
  rw [← hbg] at HGB
  have HBL : Hid (∀ x ∈ badL w5.heap.size, rightT x.2.1 x.2.2 = false ∧ x.2.1.length ≤ 100000 ∧ (∀ s ∈ x.2.1, s.arcs.length ≤ 100000) ∧ ∀ s ∈ x.2.1, s.ok) := Lib.hid (bad_rights _)
  obtain ⟨xsB, hxB⟩ : ∃ xsB, xsB = badL w5.heap.size := ⟨_, rfl⟩
  have HXL : Hid (xsB.length = 13) := Lib.hid (by rw [hxB]; rfl)
  rw [← hxB] at HBAD HBL
  clear hxB
  rw [← hbg]
  clear hbg
  go_loopw [14] (fun s14 wr => ∃ k : Nat, k ≤ 13 ∧ s14 = .int .i64 k ∧ Hid (Below W.heap.size W wr)) (fun s14 _ => 13 - (intOf s14).toNat)
  case atStart => exact ⟨0, by omega, rfl, Lib.hid (Below.refl _ _)⟩
  case round =>
    obtain ⟨k, hk, rfl, HR⟩ := hrel
    by_cases hlt : k < 13
    · have e0 : decide ((k : Int) < 13) = true := by simp; omega
      have i1 : (k : Int) < 13 := by omega
      have hkx : k < xsB.length := by rw [HXL.out]; exact hlt
      obtain ⟨h1, h2, h3⟩ := HBAD.out.below HR.out k hkx
      obtain ⟨q1, q2, q3, q4⟩ := HBL.out _ (List.getElem_mem hkx)
      obtain ⟨x, hx⟩ : ∃ x, x = xsB[k] := ⟨_, rfl⟩
      rw [← hx] at h1 h2 h3 q1 q2 q3 q4
      obtain ⟨x1, xl, xi⟩ := x
      have QR := Lib.hid (right_any (init := xi) h3 q2 q3 q4)
      have HQ1 := Lib.hid q1
      clear h3 q1 q2 q3 q4 hx hkx
      go_wp2_with (go_at_call 37
                   (with_reducible refine QR.out.mono ?_)
                   go_loud (
                   rw [show rightT xl xi = false from HQ1.out]
                   rintro e' w6 ⟨rfl, hb6⟩
                   have HB6 := Lib.hid hb6
                   clear hb6))
      exact ⟨⟨k + 1, by omega, by go_num, Lib.hid (HR.out.trans (HB6.out.mono HR.out.size))⟩, by simp [intOf]; omega⟩
    · have e0 : decide ((k : Int) < 13) = false := by simp; omega
      have hke : k = 13 := by omega
      subst hke
      obtain ⟨b3, o3, rfl, b4, o4, c4, b5, o5, c59, hgin⟩ := g_in HSW.out
      have HGI := Lib.hid (hgin.below HR.out)
      have hg := (HR.out.block _ (Array.getElem?_eq_some_iff.1 HGB.out).1).trans HGB.out
      have HGR := Lib.hid hg
      have g0 : wr.cell? ⟨bg, 0, none⟩ = some (.slice (some ⟨b3, o3, none⟩) 4 c5) := by rw [cell_of_row _ _ 0 _ _ _ hg]; rfl
      clear hgin hg
      go_wp2_with (first
        | (go_at_call 43
           (with_reducible refine (works_any _).mono ?_)
           go_loud (
           rintro e' w7 ⟨rfl, hb7⟩
           have hg := (hb7.block _ (Array.getElem?_eq_some_iff.1 HGR.out).1).trans HGR.out
           have g70 : w7.cell? ⟨bg, 0, none⟩ = some (.slice (some ⟨b3, o3, none⟩) 4 c5) := by rw [cell_of_row _ _ 0 _ _ _ hg]; rfl
           have g71 : w7.cell? ⟨bg, 1, none⟩ = some (.int .u64 0) := by rw [cell_of_row _ _ 1 _ _ _ hg]; rfl
           obtain ⟨p1, p2, p3, p4, p5⟩ := HGI.out.below hb7
           have HB7 := Lib.hid (HBW.out.trans ((HR.out.trans (hb7.mono HR.out.size)).mono HBW.out.size))
           clear hb7 hg))
        | (go_at_call 37
           (with_reducible refine (RE.out _ _ ?_).mono ?_)
           · exact sts_lit [(_, endS)] (by simp) (by simp) (List.forall_mem_cons.2 ⟨arcs_nil _, List.forall_mem_nil _⟩)
           go_loud (
           rintro e' w8 ⟨rfl, hb8⟩
           have HB8 := Lib.hid (HB7.out.trans (((below_alloc w7 _).trans (hb8.mono (by simp))).mono HB7.out.size))
           clear hb8))
        | (go_at_call 37
           (with_reducible refine (RN.out _ _ ?_).mono ?_)
           · exact sts_lit [(_, noneS)] (by simp) (by simp) (List.forall_mem_cons.2 ⟨arcs_nil _, List.forall_mem_nil _⟩)
           go_loud (
           rintro e' w9 ⟨rfl, hb9⟩
           have HB9 := Lib.hid (HB8.out.trans (((below_alloc w8 _).trans (hb9.mono (by simp))).mono HB8.out.size))
           clear hb9)))
      go_ret
      exact ⟨rfl, HB9.out⟩
end Go.Proofs.Ytmfchlbafpkgaaa

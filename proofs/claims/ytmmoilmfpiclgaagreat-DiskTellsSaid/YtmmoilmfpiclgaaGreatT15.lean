/-
  Acts done one behind the other on a map of names. A folder in memory: its four cells, its two maps, its acts; what is told of it.
-/
import Derived.Test.YtmmoilmfpiclgaaGreatT14
import Derived.Deep.DeepCutAuto
import Derived.Deep.CutRange
import Derived.Lib.Hide
import Derived.Shelf.SlMaps.Clone
set_option linter.unusedVariables false
set_option linter.unusedSimpArgs false
namespace Go.Proofs.YtmmoilmfpiclgaaGreat.Fld
open Go.RowKit Go.Shelf

/-- A slice's cells are acts, in order. -/
def ActsIn (w : World) (ad : Option Addr) (A : List FAct) (I : Nat → Prop) : Prop :=
  ∀ k (h : k < A.length), ∃ b o, ad = some ⟨b, o, none⟩ ∧ b < w.heap.size ∧ (∃ cs T, w.heap[b]? = some (.cells cs T (0, 0))) ∧ ∃ f, w.cell? ⟨b, o + k, none⟩ = some f ∧ FActAt w f A[k] I

/-- A map, or none, of these names. -/
def MapIs (w : World) (v : Value) (L : Names) : Prop := (v = .map none ∧ L = []) ∨ ∃ b, v = .map (some b) ∧ NamesAt w b L
def mapOf : Value → Option Nat
  | .map b => b
  | _ => none

theorem MapIs.same {w w' : World} {v : Value} {L : Names} (h : MapIs w v L) (he : ∀ b, mapOf v = some b → w'.heap[b]? = w.heap[b]?) : MapIs w' v L := by
  rcases h with h | ⟨b, rfl, h⟩
  · exact .inl h
  · exact .inr ⟨b, rfl, h.same (he b rfl)⟩
theorem MapIs.rising {w : World} {v : Value} {L : Names} (h : MapIs w v L) : Rising L := by
  rcases h with ⟨_, rfl⟩ | ⟨b, _, h⟩
  · exact Rising.nil
  · exact h.2
theorem MapIs.lt {w : World} {v : Value} {L : Names} (h : MapIs w v L) {b : Nat} (hb : mapOf v = some b) : b < w.heap.size := by
  rcases h with ⟨rfl, _⟩ | ⟨b', rfl, h⟩
  · cases hb
  · cases hb; exact h.lt
theorem MapIs.mem {w : World} {v : Value} {L : Names} (h : MapIs w v L) {b : Nat} (hb : mapOf v = some b) : ∃ es clock, w.heap[b]? = some (.map es clock) := by
  rcases h with ⟨rfl, _⟩ | ⟨b', rfl, h⟩
  · cases hb
  · cases hb; exact h.mem
theorem MapIs.look {w : World} {v : Value} {L : Names} (h : MapIs w v L) (s : ByteArray) (hs : s.size ≤ nameMax) :
    (Instr.lookup 68 v (.string s) true).run Tryz.prog w = .ok (.tuple #[.int .i64 (foundN L s.data.toList : Nat), .bool (foundB L s.data.toList)]) w := by
  rcases h with ⟨rfl, rfl⟩ | ⟨b, rfl, h⟩
  · exact look_none w s hs
  · exact h.look s hs
theorem MapIs.shape {w : World} {v : Value} {L : Names} (h : MapIs w v L) : ∃ m, v = .map m := by
  rcases h with ⟨rfl, _⟩ | ⟨b, rfl, _⟩
  · exact ⟨_, rfl⟩
  · exact ⟨_, rfl⟩

/-- Where just the map has turned, the acts stand as they were. -/
theorem ActsIn.kept {w w' : World} {b : Nat} {_L : Names} {ad : Option Addr} {A : List FAct} {I : Nat → Prop} (h : ActsIn w ad A I) (hm : (∃ es clock, w.heap[b]? = some (.map es clock)) ∨ w.heap.size ≤ b) (hI : ∀ g, I g → g < w.heap.size) (hk : Kept (fun g => g = b) w w') : ActsIn w' ad A I := fun k hk' => by
  have ne : ∀ g cs T, w.heap[g]? = some (.cells cs T (0, 0)) → g ≠ b := fun g cs T hg e => by
    rcases hm with ⟨es, clock, hb⟩ | hb
    · rw [e, hb] at hg; cases hg
    · have := (Array.getElem?_eq_some_iff.1 hg).1
      omega
  obtain ⟨g, o, h1, h2, ⟨cs, T, h3⟩, f, h4, h5⟩ := h k hk'
  have e1 := hk.block g h2 (ne g cs T h3)
  refine ⟨g, o, h1, Nat.lt_of_lt_of_le h2 hk.size, ⟨cs, T, e1.trans h3⟩, f, ?_, h5.same (fun g' hg' ⟨cs', T', hc'⟩ => hk.block g' (hI g' hg') (ne g' cs' T' hc')) (fun _ h => h)⟩
  rw [cell_of_row _ g (o + k) cs T (0, 0) (e1.trans h3)]
  rw [cell_of_row _ g (o + k) cs T (0, 0) h3] at h4
  exact h4

/-- What a call leaves of the map. -/
def Done (w : World) (b : Nat) (L : Names) (e : Ending) (w' : World) : Prop := e = .returned (.tuple #[]) ∧ NamesAt w' b L ∧ w.grownBy w' (some b)
/-- What a call of an act is, whatever act. -/
theorem act_any {w : World} {b : Nat} {L : Names} {x : FAct} {f : Value} {I : Nat → Prop} (h : NamesAt w b L) (hf : FActAt w f x I) (hx : x.fine) (hl : L.length ≤ 1000000) :
    (∃ c d, f = .func (.func 94) #[] #[.pointer (some ⟨c, 0, none⟩), .pointer (some ⟨d, 0, none⟩)] ∧ Calls Tryz.prog 94 #[.map (some b), .pointer (some ⟨c, 0, none⟩), .pointer (some ⟨d, 0, none⟩)] w (Done w b (x.on L))) ∨
    (∃ c d e, f = .func (.func 133) #[] #[.pointer (some ⟨c, 0, none⟩), .pointer (some ⟨d, 0, none⟩), .pointer (some ⟨e, 0, none⟩)] ∧ Calls Tryz.prog 133 #[.map (some b), .pointer (some ⟨c, 0, none⟩), .pointer (some ⟨d, 0, none⟩), .pointer (some ⟨e, 0, none⟩)] w (Done w b (x.on L))) ∨
    (∃ c, f = .func (.func 134) #[] #[.pointer (some ⟨c, 0, none⟩)] ∧ Calls Tryz.prog 134 #[.map (some b), .pointer (some ⟨c, 0, none⟩)] w (Done w b (x.on L))) := by
  cases x with
  | create k n =>
    obtain ⟨c, d, rfl, h1, h2, _⟩ := hf
    exact .inl ⟨c, d, rfl, create_act h h1 h2 hx.1 hx.2 hl⟩
  | rename a b' n =>
    obtain ⟨c, d, e, rfl, h1, h2, h3, _⟩ := hf
    exact .inr (.inl ⟨c, d, e, rfl, rename_act h h1 h2 h3 hx.1 hx.2.1 hx.2.2 hl⟩)
  | remove k =>
    obtain ⟨c, rfl, h1, _⟩ := hf
    exact .inr (.inr ⟨c, rfl, remove_act h h1 hx⟩)

theorem store_func (w : World) (a : Addr) (fn : Fn) (first captured : Array Value) : (store a (.func fn first captured)).run Tryz.prog w = stored Tryz.prog w a (.func fn first captured) .plain := run_store Tryz.prog w a _ _ rfl

theorem nil_map_is (w : World) (m : Option Nat) : (binOp .eql 68 (.map m) (.map none)).run Tryz.prog w = .ok (.bool m.isNone) w := run_eql_map_nil_sl w 68 9 3 m Tryz.underlying68

set_option maxHeartbeats 4000000 in
set_option maxRecDepth 100000 in
theorem behind_any {w : World} {v : Value} {L : Names} {ad : Option Addr} {n c : Nat} {A : List FAct} {I : Nat → Prop} (h : MapIs w v L) (hA : ActsIn w ad A I) (hn : A.length = n) (hI : ∀ g, I g → g < w.heap.size) (hf : ∀ x ∈ A, x.fine) (hl : L.length + n ≤ 1000000) :
    Calls Tryz.prog 96 #[v, .slice ad n c] w fun e w' => ∃ b, e = .returned (.map (some b)) ∧ NamesAt w' b (actsOn L A) ∧ (mapOf v = some b ∨ mapOf v = none ∧ w.heap.size ≤ b) ∧ Kept (fun g => mapOf v = some g) w w' := by
  have HA : Hid (∀ b W, ((∃ es clock, w.heap[b]? = some (.map es clock)) ∨ w.heap.size ≤ b) → Kept (fun g => g = b) w W → ActsIn W ad A I) := Lib.hid fun b W h1 h2 => ActsIn.kept (_L := L) hA h1 hI h2
  have HF := Lib.hid hf
  have HN := Lib.hid hn
  have HM := Lib.hid h
  obtain ⟨m, rfl⟩ := h.shape
  clear hA hI hf h hn
  have hq := nil_map_is w m
  have hsf := store_func
  go_enter Tryz.func96, Tryz.ntmps96
  go_upto_if 8 with fail
  go_cut [0] from 7 to 9 (fun s0 wx => ∃ b, s0 = .map (some b) ∧ NamesAt wx b L ∧ ((m = some b ∧ wx = w) ∨ (m = none ∧ w.heap.size ≤ b ∧ Below w.heap.size w wx)))
  case first =>
    rcases HM.out with ⟨hv, hL⟩ | ⟨b, hv, h⟩
    · cases hv
      have hmm := @run_makeMap Tryz.prog
      go_wp2
      go_meet
      exact ⟨_, rfl, by rw [hL]; exact names_made w, .inr ⟨trivial, Nat.le_refl _, below_alloc' (Below.refl _ w)⟩⟩
    · cases hv
      have H := Lib.hid h
      clear h
      go_wp2
      go_meet
      exact ⟨b, rfl, H.out, .inl (by simp)⟩
  case rest =>
  obtain ⟨b, rfl, h1, h2⟩ := hcut
  have hb : (∃ es clock, w.heap[b]? = some (.map es clock)) ∨ w.heap.size ≤ b := by
    rcases h2 with ⟨rfl, rfl⟩ | ⟨_, hb, _⟩
    · exact .inl h1.mem
    · exact .inr hb
  have hk0 : Kept (fun g => g = b) w wc := by
    rcases h2 with ⟨_, rfl⟩ | ⟨_, _, hb⟩
    · exact Kept.refl _ _
    · exact Kept.below hb
  have HB := Lib.hid hb
  have HW := Lib.hid h2
  have H1 := Lib.hid h1
  have HK0 := Lib.hid hk0
  clear hb h1 h2 hk0 hq
  go_wp2
  go_loopw [12] (fun s12 wr => ∃ k : Nat, k ≤ n ∧ s12 = .int .i64 k ∧ NamesAt wr b (actsOn L (A.take k)) ∧ Kept (fun g => g = b) w wr) (fun s12 _ => n - (intOf s12).toNat)
  case atStart => exact ⟨0, Nat.zero_le _, rfl, H1.out, HK0.out⟩
  case round =>
    obtain ⟨k, hk, rfl, hm, hkp⟩ := hrel
    have HMk := Lib.hid hm
    have HKp := Lib.hid hkp
    clear hm hkp
    by_cases hlt : k < n
    · have hkA : k < A.length := by rw [HN.out]; exact hlt
      obtain ⟨g, o, rfl, g1, _, f, g3, g4⟩ := HA.out b wr HB.out HKp.out k hkA
      have hlen : (actsOn L (A.take k)).length ≤ 1000000 := by
        have h1 := actsOn_length L (A.take k)
        rw [List.length_take] at h1
        omega
      obtain ⟨w1, hw1⟩ : ∃ w1, wr.alloc (.cells #[f] 163) = w1 := ⟨_, rfl⟩
      have hb1 : Below wr.heap.size wr w1 := by rw [← hw1]; exact below_alloc' (Below.refl _ wr)
      have hn1 : NamesAt w1 b (actsOn L (A.take k)) := HMk.out.same (hb1.block b HMk.out.lt)
      have hf1 : FActAt w1 f A[k] I := g4.same (fun g' _ ⟨cs, T, hc⟩ => hb1.block g' (Array.getElem?_eq_some_iff.1 hc).1) (fun _ h => h)
      have hcall := act_any hn1 hf1 (HF.out _ (List.getElem_mem hkA)) hlen
      have hsn : actsOn L (A.take (k + 1)) = A[k].on (actsOn L (A.take k)) := by rw [List.take_succ_eq_append_getElem hkA, actsOn_snoc]
      obtain ⟨x, hx⟩ : ∃ x, A[k] = x := ⟨_, rfl⟩
      rw [hx] at hcall hsn
      have fin : ∀ w2, NamesAt w2 b (x.on (actsOn L (A.take k))) → w1.grownBy w2 (some b) → NamesAt w2 b (actsOn L (A.take (k + 1))) ∧ Kept (fun g => g = b) w w2 := fun w2 h2 h3 => by
        refine ⟨?_, (HKp.out.trans (Kept.below hb1) (fun g hg => .inl hg)).trans (Kept.grown h3 (fun g hg => by cases hg; rfl)) (fun g hg => .inl hg)⟩
        rw [hsn]
        exact h2
      have FIN := Lib.hid fin
      have jlt : (k : Int) < (n : Int) := by omega
      have j3 : w1.cell? ⟨wr.heap.size, 0, none⟩ = some f := by rw [← hw1, cell_of_row _ _ 0 _ _ _ (heap_alloc_new wr _)]; rfl
      clear g4 hf1 hn1 hb1 fin hsn hx hkA hlen
      rcases hcall with ⟨c', d, rfl, hc⟩ | ⟨c', d, e, rfl, hc⟩ | ⟨c', rfl, hc⟩
      · have HC := Lib.hid hc
        clear hc
        go_wp2_with (go_at_call 94; (with_reducible refine HC.out.mono ?_); rintro e w2 ⟨rfl, h2, h3⟩; have H2 := Lib.hid (FIN.out w2 h2 h3); clear h2 h3)
        exact ⟨⟨k + 1, by omega, by go_num, H2.out.1, H2.out.2⟩, by simp [intOf]; omega⟩
      · have HC := Lib.hid hc
        clear hc
        go_wp2_with (go_at_call 133; (with_reducible refine HC.out.mono ?_); rintro e w2 ⟨rfl, h2, h3⟩; have H2 := Lib.hid (FIN.out w2 h2 h3); clear h2 h3)
        exact ⟨⟨k + 1, by omega, by go_num, H2.out.1, H2.out.2⟩, by simp [intOf]; omega⟩
      · have HC := Lib.hid hc
        clear hc
        go_wp2_with (go_at_call 134; (with_reducible refine HC.out.mono ?_); rintro e w2 ⟨rfl, h2, h3⟩; have H2 := Lib.hid (FIN.out w2 h2 h3); clear h2 h3)
        exact ⟨⟨k + 1, by omega, by go_num, H2.out.1, H2.out.2⟩, by simp [intOf]; omega⟩
    · have jge : ¬ (k : Int) < (n : Int) := by omega
      have hkn : k = n := by omega
      have hfin : NamesAt wr b (actsOn L A) ∧ (m = some b ∨ m = none ∧ w.heap.size ≤ b) ∧ Kept (fun g => m = some g) w wr := by
        have h1 := HMk.out
        rw [List.take_of_length_le (by rw [HN.out]; omega)] at h1
        refine ⟨h1, ?_, ?_⟩
        · rcases HW.out with ⟨h, _⟩ | ⟨h, h', _⟩
          · exact .inl h
          · exact .inr ⟨h, h'⟩
        · refine HKp.out.mono fun g hg => ?_
          rcases HW.out with ⟨h, _⟩ | ⟨h, h', _⟩
          · exact .inl (by rw [h, hg])
          · exact .inr (by rw [hg]; exact h')
      have HFIN := Lib.hid hfin
      clear hfin
      go_wp2
      go_ret
      exact ⟨b, rfl, HFIN.out⟩
end Go.Proofs.YtmmoilmfpiclgaaGreat.Fld
namespace Go.Proofs.YtmmoilmfpiclgaaGreat.Fld
open Go.RowKit Go.Shelf

/-- The acts of a row. -/
def FActs (w : World) (fs : List Value) (A : List FAct) (I : Nat → Prop) : Prop := fs.length = A.length ∧ ∀ k (h : k < A.length), ∃ f, fs[k]? = some f ∧ FActAt w f A[k] I

theorem FActs.same {w w' : World} {fs : List Value} {A : List FAct} {I J : Nat → Prop} (h : FActs w fs A I) (he : ∀ g, I g → (∃ cs T, w.heap[g]? = some (.cells cs T (0, 0))) → w'.heap[g]? = w.heap[g]?) (hj : ∀ g, I g → J g) : FActs w' fs A J :=
  ⟨h.1, fun k hk => by
    obtain ⟨f, h1, h2⟩ := h.2 k hk
    exact ⟨f, h1, h2.same he hj⟩⟩

/-- What a folder lies in: what is behind its four cells in the same block, and the block's type: the folder alone, or an owner whose first part it is. -/
class FoldIn where
  R : List Value
  T : TypeId
  hT : T ≠ 163

set_option linter.unusedSectionVars false
variable [FoldIn]

/-- Block p holds a folder's four cells. -/
def Four (w : World) (p : Nat) (a b c d : Value) : Prop := w.heap[p]? = some (.cells ⟨a :: b :: c :: d :: FoldIn.R⟩ FoldIn.T (0, 0))
theorem Four.at0 {w : World} {p : Nat} {a b c d : Value} (h : Four w p a b c d) : w.cell? ⟨p, 0, none⟩ = some a := by rw [cell_of_row w p 0 _ _ _ h]; rfl
theorem Four.at1 {w : World} {p : Nat} {a b c d : Value} (h : Four w p a b c d) : w.cell? ⟨p, 1, none⟩ = some b := by rw [cell_of_row w p 1 _ _ _ h]; rfl
theorem Four.at2 {w : World} {p : Nat} {a b c d : Value} (h : Four w p a b c d) : w.cell? ⟨p, 2, none⟩ = some c := by rw [cell_of_row w p 2 _ _ _ h]; rfl
theorem Four.at3 {w : World} {p : Nat} {a b c d : Value} (h : Four w p a b c d) : w.cell? ⟨p, 3, none⟩ = some d := by rw [cell_of_row w p 3 _ _ _ h]; rfl
theorem Four.free {w : World} {p : Nat} {a b c d : Value} (h : Four w p a b c d) (o : Nat) : w.frozen? ⟨p, o, none⟩ = false := by
  unfold Four at h
  simp [World.frozen?, h]
theorem Four.lt {w : World} {p : Nat} {a b c d : Value} (h : Four w p a b c d) : p < w.heap.size := (Array.getElem?_eq_some_iff.1 h).1
theorem Four.set0 {w : World} {p : Nat} {a b c d : Value} (h : Four w p a b c d) (v : Value) : Four (w.setCell ⟨p, 0, none⟩ v) p v b c d := cells_setCell h 0 v
theorem Four.set1 {w : World} {p : Nat} {a b c d : Value} (h : Four w p a b c d) (v : Value) : Four (w.setCell ⟨p, 1, none⟩ v) p a v c d := cells_setCell h 1 v
theorem Four.set2 {w : World} {p : Nat} {a b c d : Value} (h : Four w p a b c d) (v : Value) : Four (w.setCell ⟨p, 2, none⟩ v) p a b v d := cells_setCell h 2 v
theorem Four.set3 {w : World} {p : Nat} {a b c d : Value} (h : Four w p a b c d) (v : Value) : Four (w.setCell ⟨p, 3, none⟩ v) p a b c v := cells_setCell h 3 v
theorem Four.same {w w' : World} {p : Nat} {a b c d : Value} (h : Four w p a b c d) (he : w'.heap[p]? = w.heap[p]?) : Four w' p a b c d := he.trans h

/-- A folder: M: the blocks that it writes; I: what its acts have caught, and what it only reads. L0: what lasts; A: the acts behind it; n: the greatest number; av: the slice of its acts; fs: the functions in it. -/
structure FolderIn (w : World) (p : Nat) (L0 : Names) (A : List FAct) (n : Nat) (av : Value) (fs : List Value) (M I : Nat → Prop) : Prop where
  it : ∃ lv tv, Four w p lv av tv (.int .i64 (n : Int)) ∧ MapIs w lv L0 ∧ MapIs w tv (actsOn L0 A) ∧ M p ∧ (∀ b, mapOf lv = some b → M b) ∧ (∀ b, mapOf tv = some b → M b) ∧ (mapOf lv = mapOf tv → mapOf lv = none)
  row : ARow w av fs
  acts : FActs w fs A I
  room : ∀ b, av.ownBlock = some b → M b ∨ (I b ∧ capOf av = fs.length)
  fine : ∀ x ∈ A, x.fine
  small : L0.length + A.length ≤ 100000 ∧ n ≤ 100000
  mem : ∀ g, M g ∨ I g → g < w.heap.size
  apart : ∀ g, I g → ¬ M g

theorem FolderIn.same_row {w w' : World} {p : Nat} {L0 : Names} {A : List FAct} {n : Nat} {av : Value} {fs : List Value} {M I : Nat → Prop} (h : FolderIn w p L0 A n av fs M I) (he : ∀ g, M g ∨ I g → av.ownBlock ≠ some g → w'.heap[g]? = w.heap[g]?) (hr : ARow w' av fs) (hs : w.heap.size ≤ w'.heap.size) : FolderIn w' p L0 A n av fs M I := by
  obtain ⟨lv, tv, h1, h2, h3, h4, h5, h6, h7⟩ := h.it
  have ne : ∀ g, (∃ es clock, w.heap[g]? = some (.map es clock)) → av.ownBlock ≠ some g := fun g ⟨es, clock, hm⟩ hg => by
    obtain ⟨cs, hc⟩ := h.row.mem hg
    rw [hm] at hc; cases hc
  have ne' : ∀ g cs T, w.heap[g]? = some (.cells cs T (0, 0)) → T ≠ 163 → av.ownBlock ≠ some g := fun g cs T hc ht hg => by
    obtain ⟨ds, hd⟩ := h.row.mem hg
    rw [hd] at hc; cases hc; exact ht rfl
  refine ⟨⟨lv, tv, h1.same (he p (.inl h4) (ne' p _ _ h1 FoldIn.hT)), h2.same fun b hb => he b (.inl (h5 b hb)) (ne b (h2.mem hb)), h3.same fun b hb => he b (.inl (h6 b hb)) (ne b (h3.mem hb)), h4, h5, h6, h7⟩, hr, ⟨h.acts.1, fun k hk => ?_⟩, h.room, h.fine, h.small, fun g hg => Nat.lt_of_lt_of_le (h.mem g hg) hs, h.apart⟩
  obtain ⟨f, k1, k2⟩ := h.acts.2 k hk
  refine ⟨f, k1, ?_⟩
  revert k2
  generalize A[k] = x
  intro k2
  cases x with
  | create k n =>
    obtain ⟨c, d, q1, q2, q3, q4, q5⟩ := k2
    exact ⟨c, d, q1, (he c (.inr q4) (ne' c _ _ q2 (by decide))).trans q2, (he d (.inr q5) (ne' d _ _ q3 (by decide))).trans q3, q4, q5⟩
  | rename a b n =>
    obtain ⟨c, d, e, q1, q2, q3, q4, q5, q6, q7⟩ := k2
    exact ⟨c, d, e, q1, (he c (.inr q5) (ne' c _ _ q2 (by decide))).trans q2, (he d (.inr q6) (ne' d _ _ q3 (by decide))).trans q3, (he e (.inr q7) (ne' e _ _ q4 (by decide))).trans q4, q5, q6, q7⟩
  | remove k =>
    obtain ⟨c, q1, q2, q3⟩ := k2
    exact ⟨c, q1, (he c (.inr q3) (ne' c _ _ q2 (by decide))).trans q2, q3⟩
theorem FolderIn.same {w w' : World} {p : Nat} {L0 : Names} {A : List FAct} {n : Nat} {av : Value} {fs : List Value} {M I : Nat → Prop} (h : FolderIn w p L0 A n av fs M I) (he : ∀ g, M g ∨ I g → w'.heap[g]? = w.heap[g]?) (hs : w.heap.size ≤ w'.heap.size) : FolderIn w' p L0 A n av fs M I :=
  h.same_row (fun g hg _ => he g hg) (h.row.same fun g hg => by
    rcases h.room g hg with k | k
    · exact he g (.inl k)
    · exact he g (.inr k.1)) hs
theorem FolderIn.kept {w w' : World} {p : Nat} {L0 : Names} {A : List FAct} {n : Nat} {av : Value} {fs : List Value} {M I N : Nat → Prop} (h : FolderIn w p L0 A n av fs M I) (hk : Kept N w w') (hn : ∀ g, M g ∨ I g → ¬ N g) : FolderIn w' p L0 A n av fs M I :=
  h.same (fun g hg => hk.block g (h.mem g hg) (hn g hg)) hk.size
theorem FolderIn.below {w w' : World} {p : Nat} {L0 : Names} {A : List FAct} {n : Nat} {av : Value} {fs : List Value} {M I : Nat → Prop} (h : FolderIn w p L0 A n av fs M I) (hb : Below w.heap.size w w') : FolderIn w' p L0 A n av fs M I :=
  h.same (fun g hg => hb.block g (h.mem g hg)) hb.size
theorem FolderIn.rising {w : World} {p : Nat} {L0 : Names} {A : List FAct} {n : Nat} {av : Value} {fs : List Value} {M I : Nat → Prop} (h : FolderIn w p L0 A n av fs M I) : Rising L0 := by
  obtain ⟨lv, tv, h1, h2, _⟩ := h.it
  exact h2.rising
theorem FolderIn.rising' {w : World} {p : Nat} {L0 : Names} {A : List FAct} {n : Nat} {av : Value} {fs : List Value} {M I : Nat → Prop} (h : FolderIn w p L0 A n av fs M I) : Rising (actsOn L0 A) := actsOn_rising h.rising A

/-- The acts that a slice of such a row holds. -/
theorem ARow.acts {w : World} {v : Value} {fs : List Value} {A : List FAct} {I : Nat → Prop} (h : ARow w v fs) (hA : FActs w fs A I) {ad : Option Addr} {n c : Nat} (hv : v = .slice ad n c) : ActsIn w ad A I := fun k hk => by
  obtain ⟨f, h1, h2⟩ := hA.2 k hk
  rcases h with ⟨rfl, rfl⟩ | ⟨g, cap, cs, rfl, k1, k2, k3, k4, k5⟩
  · have := hA.1
    simp at this
    omega
  · cases hv
    refine ⟨g, 0, rfl, (Array.getElem?_eq_some_iff.1 k3).1, ⟨cs, 163, k3⟩, f, ?_, h2⟩
    have hlt : k < fs.length := by rw [hA.1]; exact hk
    have := ARow.cell (.inr ⟨g, c, cs, rfl, k1, k2, k3, k4, k5⟩) rfl hlt (w := w)
    rw [Nat.zero_add, this]
    rw [List.getElem?_eq_getElem hlt] at h1
    exact h1


set_option maxHeartbeats 1000000 in
set_option maxRecDepth 100000 in
theorem find_any {w : World} {p : Nat} {L0 : Names} {A : List FAct} {n : Nat} {av : Value} {fs : List Value} {M I : Nat → Prop} (h : FolderIn w p L0 A n av fs M I) (s : ByteArray) (hs : s.size ≤ nameMax) :
    Calls Tryz.prog 83 #[.pointer (some ⟨p, 0, none⟩), .string s] w fun e w' => e = .returned (.tuple #[.int .i64 (foundN (actsOn L0 A) s.data.toList : Nat), .bool (foundB (actsOn L0 A) s.data.toList)]) ∧ w = w' := by
  obtain ⟨lv, tv, h1, _, h3, _⟩ := h.it
  have k2 := h1.at2
  have hl := h3.look s hs
  obtain ⟨m, rfl⟩ := h3.shape
  clear h h1 h3
  go_enter Tryz.func83, Tryz.ntmps83
  go_wp2
  go_ret2
  exact ⟨rfl, rfl⟩

/-- May that be a name? -/
def mayB (s : ByteArray) : Bool := decide (0 < s.size ∧ s.size ≤ 64)

set_option maxHeartbeats 1000000 in
set_option maxRecDepth 100000 in
theorem may_any (s : ByteArray) (w : World) (hs : s.size ≤ nameMax) : Calls Tryz.prog 92 #[.string s] w fun e w' => e = .returned (.bool (mayB s)) ∧ w = w' := by
  rcases Nat.eq_zero_or_pos s.size with h0 | h0
  · have he : s = ⟨#[]⟩ := by
      cases s with | mk d => simp only [ByteArray.size] at h0; rw [Array.size_eq_zero_iff.1 h0]
    subst he
    go_enter Tryz.func92, Tryz.ntmps92
    go_wp2
    go_ret
    exact ⟨rfl, rfl⟩
  · have hne : (!s.toList.isEmpty) = true := by
      have : s.toList.length = s.size := by rw [Lib.toList_data]; exact Array.length_toList
      cases hl : s.toList with
      | nil => rw [hl] at this; simp at this; omega
      | cons a r => rfl
    by_cases h64 : s.size ≤ 64
    · have hm : mayB s = true := decide_eq_true ⟨h0, h64⟩
      rw [hm]
      go_enter Tryz.func92, Tryz.ntmps92
      go_wp2
      go_ret
      exact ⟨by simp; omega, rfl⟩
    · have hm : mayB s = false := decide_eq_false fun h => h64 h.2
      rw [hm]
      go_enter Tryz.func92, Tryz.ntmps92
      go_wp2
      go_ret
      exact ⟨by simp; omega, rfl⟩

/-- The first acts of n. -/
def upTo (n : Int) (l : Nat) : Nat := (max (min n (l : Int)) 0).toNat

set_option maxHeartbeats 1000000 in
set_option maxRecDepth 100000 in
theorem first_any {w : World} {v : Value} {fs : List Value} (h : ARow w v fs) (n : Int) (hn : -1000000 ≤ n ∧ n ≤ 1000000) (hl : fs.length ≤ 1000000) :
    Calls Tryz.prog 104 #[v, .int .i64 n] w fun e w' => ∃ v', e = .returned v' ∧ ARow w v' (fs.take (upTo n fs.length)) ∧ (v' = .slice none 0 0 ∨ v'.ownBlock = v.ownBlock) ∧ capOf v' = upTo n fs.length ∧ w = w' := by
  obtain ⟨ad, c, rfl, h1, h2⟩ := h.shape
  obtain ⟨u, hu⟩ : ∃ u, upTo n fs.length = u := ⟨_, rfl⟩
  have hui : (u : Int) = max (min n (fs.length : Int)) 0 := by rw [← hu]; unfold upTo; omega
  have hul : u ≤ fs.length := by omega
  rw [hu]
  obtain ⟨l, hl'⟩ : ∃ l, fs.length = l := ⟨_, rfl⟩
  have hcases : (n ≤ 0 ∧ u = 0) ∨ (0 < n ∧ n < (l : Int) ∧ n = (u : Int)) ∨ (0 < n ∧ ¬ n < (l : Int) ∧ u = l) := by omega
  have fin : ∀ v', v' = (.slice ad u u : Value) → ARow w v' (fs.take u) ∧ (v' = .slice none 0 0 ∨ v'.ownBlock = (Value.slice ad fs.length c).ownBlock) ∧ capOf v' = u := by
    rintro v' rfl
    rcases h with ⟨hv, rfl⟩ | ⟨g, cap, cs, hv, k1, k2, k3, k4, k5⟩
    · cases hv
      obtain rfl : u = 0 := by simpa using hul
      exact ⟨.inl ⟨rfl, rfl⟩, .inl rfl, rfl⟩
    · cases hv
      refine ⟨.inr ⟨g, u, cs, by rw [List.length_take, Nat.min_eq_left hul], by rw [List.length_take]; omega, by omega, k3, by omega, ?_⟩, .inr rfl, rfl⟩
      rw [List.length_take, Nat.min_eq_left hul]
      have := congrArg (List.take u) k5
      rwa [List.take_take, Nat.min_eq_left hul] at this
  rw [hl'] at h1 hul hl fin ⊢
  have FIN := Lib.hid fin
  have hcap : u ≤ c := by omega
  clear h hu hui fin hl'
  go_enter Tryz.func104, Tryz.ntmps104
  rcases hcases with ⟨h1', rfl⟩ | ⟨h1', h2', rfl⟩ | ⟨h1', h2', rfl⟩
  · rcases (by omega : n < 0 ∨ n = 0) with h0 | rfl
    · go_wp2
      go_ret
      exact ⟨_, rfl, (FIN.out _ rfl).1, (FIN.out _ rfl).2.1, (FIN.out _ rfl).2.2, rfl⟩
    · go_wp2
      go_ret
      exact ⟨_, rfl, (FIN.out _ rfl).1, (FIN.out _ rfl).2.1, (FIN.out _ rfl).2.2, rfl⟩
  · go_wp2
    go_ret
    exact ⟨_, rfl, (FIN.out _ rfl).1, (FIN.out _ rfl).2.1, (FIN.out _ rfl).2.2, rfl⟩
  · rcases (by omega : n = (u : Int) ∨ (u : Int) < n) with rfl | h0
    · go_wp2
      go_ret
      exact ⟨_, rfl, (FIN.out _ rfl).1, (FIN.out _ rfl).2.1, (FIN.out _ rfl).2.2, rfl⟩
    · go_wp2
      go_ret
      exact ⟨_, rfl, (FIN.out _ rfl).1, (FIN.out _ rfl).2.1, (FIN.out _ rfl).2.2, rfl⟩
end Go.Proofs.YtmmoilmfpiclgaaGreat.Fld

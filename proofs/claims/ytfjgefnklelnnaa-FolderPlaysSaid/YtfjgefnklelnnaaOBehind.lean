/-
  Acts done one behind the other on a map of names.
-/
import Derived.Test.YtfjgefnklelnnaaONames
import Derived.Deep.DeepCutAuto
import Derived.Deep.CutRange
import Derived.Lib.Hide
import Derived.Shelf.SlMaps.Clone
namespace Go.Proofs.Ytfjgefnklelnnaa
open Go.RowKit Go.Shelf

/-- A slice's cells are acts, in order. -/
def ActsIn (w : World) (ad : Option Addr) (A : List FAct) (I : Nat → Prop) : Prop :=
  ∀ k (h : k < A.length), ∃ b o, ad = some ⟨b, o, none⟩ ∧ b < w.heap.size ∧ (∃ cs T, w.heap[b]? = some (.cells cs T (0, 0))) ∧ ∃ f, w.cell? ⟨b, o + k, none⟩ = some f ∧ FActAt w f A[k] I

/-- A map, or none, of these names. -/
def MapIs (w : World) (v : Value) (L : Names) : Prop := (v = .map none ∧ L = []) ∨ ∃ b, v = .map (some b) ∧ NamesAt w b L
def mapOf : Value → Option Nat
  | .map b => b
  | _ => none

theorem MapIs.same {w w' : World} {v : Value} {L : Names} (h : MapIs w v L) (he : ∀ b, mapOf v = some b → w'.heap[b]? = w.heap[b]?) : MapIs w' v L := by
  rcases h with h | ⟨b, rfl, h⟩
  · exact .inl h
  · exact .inr ⟨b, rfl, h.same (he b rfl)⟩
theorem MapIs.rising {w : World} {v : Value} {L : Names} (h : MapIs w v L) : Rising L := by
  rcases h with ⟨_, rfl⟩ | ⟨b, _, h⟩
  · exact Rising.nil
  · exact h.2
theorem MapIs.lt {w : World} {v : Value} {L : Names} (h : MapIs w v L) {b : Nat} (hb : mapOf v = some b) : b < w.heap.size := by
  rcases h with ⟨rfl, _⟩ | ⟨b', rfl, h⟩
  · cases hb
  · cases hb; exact h.lt
theorem MapIs.mem {w : World} {v : Value} {L : Names} (h : MapIs w v L) {b : Nat} (hb : mapOf v = some b) : ∃ es clock, w.heap[b]? = some (.map es clock) := by
  rcases h with ⟨rfl, _⟩ | ⟨b', rfl, h⟩
  · cases hb
  · cases hb; exact h.mem
theorem MapIs.look {w : World} {v : Value} {L : Names} (h : MapIs w v L) (s : ByteArray) (hs : s.size ≤ 1000000) :
    (Instr.lookup 53 v (.string s) true).run Try.prog w = .ok (.tuple #[.int .i64 (foundN L s.data.toList : Nat), .bool (foundB L s.data.toList)]) w := by
  rcases h with ⟨rfl, rfl⟩ | ⟨b, rfl, h⟩
  · exact look_none w s hs
  · exact h.look s hs
theorem MapIs.shape {w : World} {v : Value} {L : Names} (h : MapIs w v L) : ∃ m, v = .map m := by
  rcases h with ⟨rfl, _⟩ | ⟨b, rfl, _⟩
  · exact ⟨_, rfl⟩
  · exact ⟨_, rfl⟩

/-- Where just the map has turned, the acts stand as they were. -/
theorem ActsIn.kept {w w' : World} {b : Nat} {L : Names} {ad : Option Addr} {A : List FAct} {I : Nat → Prop} (h : ActsIn w ad A I) (hm : (∃ es clock, w.heap[b]? = some (.map es clock)) ∨ w.heap.size ≤ b) (hI : ∀ g, I g → g < w.heap.size) (hk : Kept (fun g => g = b) w w') : ActsIn w' ad A I := fun k hk' => by
  have ne : ∀ g cs T, w.heap[g]? = some (.cells cs T (0, 0)) → g ≠ b := fun g cs T hg e => by
    rcases hm with ⟨es, clock, hb⟩ | hb
    · rw [e, hb] at hg; cases hg
    · have := (Array.getElem?_eq_some_iff.1 hg).1
      omega
  obtain ⟨g, o, h1, h2, ⟨cs, T, h3⟩, f, h4, h5⟩ := h k hk'
  have e1 := hk.block g h2 (ne g cs T h3)
  refine ⟨g, o, h1, Nat.lt_of_lt_of_le h2 hk.size, ⟨cs, T, e1.trans h3⟩, f, ?_, h5.same (fun g' hg' ⟨cs', T', hc'⟩ => hk.block g' (hI g' hg') (ne g' cs' T' hc')) (fun _ h => h)⟩
  rw [cell_of_row _ g (o + k) cs T (0, 0) (e1.trans h3)]
  rw [cell_of_row _ g (o + k) cs T (0, 0) h3] at h4
  exact h4

/-- What a call leaves of the map. -/
def Done (w : World) (b : Nat) (L : Names) (e : Ending) (w' : World) : Prop := e = .returned (.tuple #[]) ∧ NamesAt w' b L ∧ w.grownBy w' (some b)
/-- What a call of an act is, whatever act. -/
theorem act_any {w : World} {b : Nat} {L : Names} {x : FAct} {f : Value} {I : Nat → Prop} (h : NamesAt w b L) (hf : FActAt w f x I) (hx : x.fine) (hl : L.length ≤ 1000000) :
    (∃ c d, f = .func (.func 34) #[] #[.pointer (some ⟨c, 0, none⟩), .pointer (some ⟨d, 0, none⟩)] ∧ Calls Try.prog 34 #[.map (some b), .pointer (some ⟨c, 0, none⟩), .pointer (some ⟨d, 0, none⟩)] w (Done w b (x.on L))) ∨
    (∃ c d e, f = .func (.func 40) #[] #[.pointer (some ⟨c, 0, none⟩), .pointer (some ⟨d, 0, none⟩), .pointer (some ⟨e, 0, none⟩)] ∧ Calls Try.prog 40 #[.map (some b), .pointer (some ⟨c, 0, none⟩), .pointer (some ⟨d, 0, none⟩), .pointer (some ⟨e, 0, none⟩)] w (Done w b (x.on L))) ∨
    (∃ c, f = .func (.func 42) #[] #[.pointer (some ⟨c, 0, none⟩)] ∧ Calls Try.prog 42 #[.map (some b), .pointer (some ⟨c, 0, none⟩)] w (Done w b (x.on L))) := by
  cases x with
  | create k n =>
    obtain ⟨c, d, rfl, h1, h2, _⟩ := hf
    exact .inl ⟨c, d, rfl, create_act h h1 h2 hx.1 hx.2 hl⟩
  | rename a b' n =>
    obtain ⟨c, d, e, rfl, h1, h2, h3, _⟩ := hf
    exact .inr (.inl ⟨c, d, e, rfl, rename_act h h1 h2 h3 hx.1 hx.2.1 hx.2.2 hl⟩)
  | remove k =>
    obtain ⟨c, rfl, h1, _⟩ := hf
    exact .inr (.inr ⟨c, rfl, remove_act h h1 hx⟩)

theorem store_func (w : World) (a : Addr) (fn : Fn) (first captured : Array Value) : (store a (.func fn first captured)).run Try.prog w = stored Try.prog w a (.func fn first captured) .plain := run_store Try.prog w a _ _ rfl

theorem nil_map_is (w : World) (m : Option Nat) : (binOp .eql 53 (.map m) (.map none)).run Try.prog w = .ok (.bool m.isNone) w := run_eql_map_nil_sl w 53 9 3 m Try.underlying53

set_option maxHeartbeats 4000000 in
set_option maxRecDepth 100000 in
theorem behind_any {w : World} {v : Value} {L : Names} {ad : Option Addr} {n c : Nat} {A : List FAct} {I : Nat → Prop} (h : MapIs w v L) (hA : ActsIn w ad A I) (hn : A.length = n) (hI : ∀ g, I g → g < w.heap.size) (hf : ∀ x ∈ A, x.fine) (hl : L.length + n ≤ 1000000) :
    Calls Try.prog 43 #[v, .slice ad n c] w fun e w' => ∃ b, e = .returned (.map (some b)) ∧ NamesAt w' b (actsOn L A) ∧ (mapOf v = some b ∨ mapOf v = none ∧ w.heap.size ≤ b) ∧ Kept (fun g => mapOf v = some g) w w' := by
  have HA : Hid (∀ b W, ((∃ es clock, w.heap[b]? = some (.map es clock)) ∨ w.heap.size ≤ b) → Kept (fun g => g = b) w W → ActsIn W ad A I) := Lib.hid fun b W h1 h2 => ActsIn.kept (L := L) hA h1 hI h2
  have HF := Lib.hid hf
  have HN := Lib.hid hn
  have HM := Lib.hid h
  obtain ⟨m, rfl⟩ := h.shape
  clear hA hI hf h hn
  have hq := nil_map_is w m
  have hsf := store_func
  go_enter Try.func43, Try.ntmps43
  go_upto_if 8 with fail
  go_cut [0] from 7 to 9 (fun s0 wx => ∃ b, s0 = .map (some b) ∧ NamesAt wx b L ∧ ((m = some b ∧ wx = w) ∨ (m = none ∧ w.heap.size ≤ b ∧ Below w.heap.size w wx)))
  case first =>
    rcases HM.out with ⟨hv, hL⟩ | ⟨b, hv, h⟩
    · cases hv
      have hmm := @run_makeMap Try.prog
      go_wp2
      go_meet
      exact ⟨_, rfl, by rw [hL]; exact names_made w, .inr ⟨trivial, Nat.le_refl _, below_alloc' (Below.refl _ w)⟩⟩
    · cases hv
      have H := Lib.hid h
      clear h
      go_wp2
      go_meet
      exact ⟨b, rfl, H.out, .inl (by simp)⟩
  case rest =>
  obtain ⟨b, rfl, h1, h2⟩ := hcut
  have hb : (∃ es clock, w.heap[b]? = some (.map es clock)) ∨ w.heap.size ≤ b := by
    rcases h2 with ⟨rfl, rfl⟩ | ⟨_, hb, _⟩
    · exact .inl h1.mem
    · exact .inr hb
  have hk0 : Kept (fun g => g = b) w wc := by
    rcases h2 with ⟨_, rfl⟩ | ⟨_, _, hb⟩
    · exact Kept.refl _ _
    · exact Kept.below hb
  have HB := Lib.hid hb
  have HW := Lib.hid h2
  have H1 := Lib.hid h1
  have HK0 := Lib.hid hk0
  clear hb h1 h2 hk0 hq
  go_wp2
  go_loopw [12] (fun s12 wr => ∃ k : Nat, k ≤ n ∧ s12 = .int .i64 k ∧ NamesAt wr b (actsOn L (A.take k)) ∧ Kept (fun g => g = b) w wr) (fun s12 _ => n - (intOf s12).toNat)
  case atStart => exact ⟨0, Nat.zero_le _, rfl, H1.out, HK0.out⟩
  case round =>
    obtain ⟨k, hk, rfl, hm, hkp⟩ := hrel
    have HMk := Lib.hid hm
    have HKp := Lib.hid hkp
    clear hm hkp
    by_cases hlt : k < n
    · have hkA : k < A.length := by rw [HN.out]; exact hlt
      obtain ⟨g, o, rfl, g1, _, f, g3, g4⟩ := HA.out b wr HB.out HKp.out k hkA
      have hlen : (actsOn L (A.take k)).length ≤ 1000000 := by
        have h1 := actsOn_length L (A.take k)
        rw [List.length_take] at h1
        omega
      obtain ⟨w1, hw1⟩ : ∃ w1, wr.alloc (.cells #[f] 90) = w1 := ⟨_, rfl⟩
      have hb1 : Below wr.heap.size wr w1 := by rw [← hw1]; exact below_alloc' (Below.refl _ wr)
      have hn1 : NamesAt w1 b (actsOn L (A.take k)) := HMk.out.same (hb1.block b HMk.out.lt)
      have hf1 : FActAt w1 f A[k] I := g4.same (fun g' _ ⟨cs, T, hc⟩ => hb1.block g' (Array.getElem?_eq_some_iff.1 hc).1) (fun _ h => h)
      have hcall := act_any hn1 hf1 (HF.out _ (List.getElem_mem hkA)) hlen
      have hsn : actsOn L (A.take (k + 1)) = A[k].on (actsOn L (A.take k)) := by rw [List.take_succ_eq_append_getElem hkA, actsOn_snoc]
      obtain ⟨x, hx⟩ : ∃ x, A[k] = x := ⟨_, rfl⟩
      rw [hx] at hcall hsn
      have fin : ∀ w2, NamesAt w2 b (x.on (actsOn L (A.take k))) → w1.grownBy w2 (some b) → NamesAt w2 b (actsOn L (A.take (k + 1))) ∧ Kept (fun g => g = b) w w2 := fun w2 h2 h3 => by
        refine ⟨?_, (HKp.out.trans (Kept.below hb1) (fun g hg => .inl hg)).trans (Kept.grown h3 (fun g hg => by cases hg; rfl)) (fun g hg => .inl hg)⟩
        rw [hsn]
        exact h2
      have FIN := Lib.hid fin
      have jlt : (k : Int) < (n : Int) := by omega
      have j3 : w1.cell? ⟨wr.heap.size, 0, none⟩ = some f := by rw [← hw1, cell_of_row _ _ 0 _ _ _ (heap_alloc_new wr _)]; rfl
      clear g4 hf1 hn1 hb1 fin hsn hx hkA hlen
      rcases hcall with ⟨c', d, rfl, hc⟩ | ⟨c', d, e, rfl, hc⟩ | ⟨c', rfl, hc⟩
      · have HC := Lib.hid hc
        clear hc
        go_wp2_with (go_at_call 34; (with_reducible refine HC.out.mono ?_); rintro e w2 ⟨rfl, h2, h3⟩; have H2 := Lib.hid (FIN.out w2 h2 h3); clear h2 h3)
        exact ⟨⟨k + 1, by omega, by go_num, H2.out.1, H2.out.2⟩, by simp [intOf]; omega⟩
      · have HC := Lib.hid hc
        clear hc
        go_wp2_with (go_at_call 40; (with_reducible refine HC.out.mono ?_); rintro e w2 ⟨rfl, h2, h3⟩; have H2 := Lib.hid (FIN.out w2 h2 h3); clear h2 h3)
        exact ⟨⟨k + 1, by omega, by go_num, H2.out.1, H2.out.2⟩, by simp [intOf]; omega⟩
      · have HC := Lib.hid hc
        clear hc
        go_wp2_with (go_at_call 42; (with_reducible refine HC.out.mono ?_); rintro e w2 ⟨rfl, h2, h3⟩; have H2 := Lib.hid (FIN.out w2 h2 h3); clear h2 h3)
        exact ⟨⟨k + 1, by omega, by go_num, H2.out.1, H2.out.2⟩, by simp [intOf]; omega⟩
    · have jge : ¬ (k : Int) < (n : Int) := by omega
      have hkn : k = n := by omega
      have hfin : NamesAt wr b (actsOn L A) ∧ (m = some b ∨ m = none ∧ w.heap.size ≤ b) ∧ Kept (fun g => m = some g) w wr := by
        have h1 := HMk.out
        rw [List.take_of_length_le (by rw [HN.out]; omega)] at h1
        refine ⟨h1, ?_, ?_⟩
        · rcases HW.out with ⟨h, _⟩ | ⟨h, h', _⟩
          · exact .inl h
          · exact .inr ⟨h, h'⟩
        · refine HKp.out.mono fun g hg => ?_
          rcases HW.out with ⟨h, _⟩ | ⟨h, h', _⟩
          · exact .inl (by rw [h, hg])
          · exact .inr (by rw [hg]; exact h')
      have HFIN := Lib.hid hfin
      clear hfin
      go_wp2
      go_ret
      exact ⟨b, rfl, HFIN.out⟩
end Go.Proofs.Ytfjgefnklelnnaa

/-
  A file read in parts, and copied.
-/
import Derived.Test.YtloijbhilfbliaaFCut
namespace Go.Proofs.Ytloijbhilfbliaa
open Go.RowKit Go.Shelf

/-- What is read from a place on. -/
def readE (R : List UInt8) (a n : Int) : Int := if a < 0 ∨ n < 0 ∨ (R.length : Int) < a then 17 else 0
def readT (R : List UInt8) (a n : Int) : List UInt8 := if a < 0 ∨ n < 0 ∨ (R.length : Int) < a then [] else (R.drop a.toNat).take n.toNat

/-- A slice within a row of bytes. -/
def BPart (w : World) (v : Value) (l : List UInt8) : Prop := ∃ ad c, v = .slice ad l.length c ∧ l.length ≤ c ∧ c ≤ 9223372036854775807 ∧ ∀ j (_ : j < l.length), ∃ b o, ad = some ⟨b, o, none⟩ ∧ w.cell? ⟨b, o + j, none⟩ = some (.int .u8 ((l.getD j 0).toNat : Int))

theorem BRow.part {w : World} {v : Value} {l : List UInt8} (h : BRow w v l) : BPart w v l := by
  rcases id h with ⟨rfl, rfl⟩ | ⟨g, cap, cs, rfl, h1, h2, hb, ht⟩
  · exact ⟨none, 0, rfl, Nat.le_refl _, by omega, fun j hj => by simp at hj⟩
  · refine ⟨_, cap, rfl, h1, h2, fun j hj => ⟨g, 0, rfl, ?_⟩⟩
    have hx : (bys l)[j]? = some (.int .u8 ((l.getD j 0).toNat : Int)) := by simp [bys, hj]
    rw [Nat.zero_add]
    exact h.cells.2 j _ hx

theorem BPart.take {w : World} {ad : Option Addr} {n c m : Nat} {l : List UInt8} (h : BPart w (.slice ad n c) l) (hm : m ≤ n) : BPart w (.slice ad m c) (l.take m) := by
  obtain ⟨ad', c', hv, h1, h2, h3⟩ := h
  cases hv
  have hl : (l.take m).length = m := by rw [List.length_take]; omega
  refine ⟨ad, c, by rw [hl], by rw [hl]; omega, h2, fun j hj => ?_⟩
  rw [hl] at hj
  obtain ⟨b, o, ha, hc⟩ := h3 j (by omega)
  refine ⟨b, o, ha, ?_⟩
  rw [hc]
  simp [List.getD, hj]

theorem BPart.drop {w : World} {ad : Option Addr} {n c p : Nat} {l : List UInt8} (h : BPart w (.slice ad n c) l) (hp : p ≤ n) : BPart w (.slice (if c = p then ad else Option.map (fun x => x.add p) ad) (n - p) (c - p)) (l.drop p) := by
  obtain ⟨ad', c', hv, h1, h2, h3⟩ := h
  cases hv
  refine ⟨_, _, by rw [List.length_drop], by rw [List.length_drop]; omega, by omega, fun j hj => ?_⟩
  rw [List.length_drop] at hj
  obtain ⟨b, o, ha, hc⟩ := h3 (p + j) (by omega)
  refine ⟨b, o + p, ?_, ?_⟩
  · rw [if_neg (by omega), ha]
    simp only [Option.map_some]
    rw [Addr.add_lit]
  · rw [show o + p + j = o + (p + j) by omega, hc]
    simp [List.getD]

set_option maxRecDepth 100000 in
theorem conv_part {w : World} {v : Value} {l : List UInt8} (h : BPart w v l) : (convert 54 9 v).run Try.prog w = .ok (.string ⟨l.toArray⟩) w := by
  obtain ⟨ad, c, rfl, h1, h2, h3⟩ := h
  by_cases hl : l = []
  · subst hl
    cases ad with
    | none => kernel_rfl
    | some a => kernel_rfl
  · obtain ⟨b, o, rfl, _⟩ := h3 0 (List.length_pos_iff.2 hl)
    have hcv := run_convert_bytes_arg (P := Try.prog) w 54 5 Try.underlying54 Try.underlying5 b o l.length c (l.map fun x => (x.toNat : Int)) (by simp) (fun i hi => by
      obtain ⟨b', o', ha, hc⟩ := h3 i hi
      cases ha
      rw [hc]
      congr 2
      simp [List.getD, hi]) 9 Try.underlying9
    rw [hcv]
    congr 2
    apply ByteArray.ext
    apply Array.toList_inj.1
    rw [strOfNums_data, List.map_map]
    show _ = l
    conv => rhs; rw [← List.map_id l]
    apply List.map_congr_left
    intro y _
    simp

set_option maxHeartbeats 1000000 in
set_option maxRecDepth 100000 in
theorem readAt_any {w : World} {p : Nat} {D : List UInt8} {A : List Do} {M I : Nat → Prop} {a n : Int} (h : FileAt w p D A M I) (h1 : -9223372036854775808 ≤ n) (h2 : n ≤ 9223372036854775807) (h3 : a ≤ 9223372036854775807) :
    Calls Try.prog 22 #[.pointer (some ⟨p, 0, none⟩), .int .i64 a, .int .i64 n] w fun e w' => e = .returned (.tuple #[.string ⟨(readT (reads D A) a n).toArray⟩, .int .i64 (readE (reads D A) a n)]) ∧ w = w' := by
  have q15 := len_any h
  obtain ⟨dv, av, rv, fs, ht, hd, hr, ha, hA, hs, m0, m1, m2, m3⟩ := h.it
  have k2 := (show Trio w p dv av rv from ht).at2
  have hsm := Nat.le_trans (reads_length D A) h.small
  obtain ⟨R, hR⟩ : ∃ R, reads D A = R := ⟨_, rfl⟩
  rw [hR] at q15 hr hsm ⊢
  have Q15 := Lib.hid q15
  by_cases hbad : a < 0 ∨ n < 0 ∨ (R.length : Int) < a
  · have e1 : readT R a n = [] := by unfold readT; rw [if_pos hbad]
    have e2 : readE R a n = 17 := by unfold readE; rw [if_pos hbad]
    rw [e1, e2]
    clear h ht hd hr ha hA hs m0 m1 m2 m3 q15 e1 e2 hR
    by_cases c1 : a < 0
    · clear hbad
      go_enter Try.func22, Try.ntmps22
      go_wp2
      go_ret2
      exact ⟨rfl, rfl⟩
    · by_cases c2 : n < 0
      · clear hbad
        go_enter Try.func22, Try.ntmps22
        go_wp2
        go_ret2
        exact ⟨rfl, rfl⟩
      · have c3 : (R.length : Int) < a := by omega
        clear hbad
        go_enter Try.func22, Try.ntmps22
        go_wp2_with (go_at_call 15; (with_reducible refine Q15.out.mono ?_); rintro e w1 ⟨rfl, rfl⟩)
        go_ret2
        exact ⟨rfl, rfl⟩
  · obtain ⟨m, rfl⟩ : ∃ m : Nat, a = (m : Int) := ⟨a.toNat, by omega⟩
    obtain ⟨k, rfl⟩ : ∃ k : Nat, n = (k : Int) := ⟨n.toNat, by omega⟩
    have e1 : readT R m k = (R.drop m).take (upTo k (R.length - m)) := by
      unfold readT
      rw [if_neg hbad]
      have : upTo k (R.length - m) = min k (R.length - m) := by unfold upTo; omega
      rw [this, Int.toNat_natCast, Int.toNat_natCast]
      rcases Nat.le_total k (R.length - m) with hle | hle
      · rw [Nat.min_eq_left hle]
      · rw [Nat.min_eq_right hle, List.take_of_length_le (by rw [List.length_drop]; exact hle), List.take_of_length_le (by rw [List.length_drop]; omega)]
    have e2 : readE R m k = 0 := by unfold readE; rw [if_neg hbad]
    rw [e1, e2]
    have d1 : decide (R.length < m) = false := decide_eq_false (by omega)
    have hmR : m ≤ R.length := by omega
    obtain ⟨ad, c, rfl, hc1, hc2⟩ := hr.shape
    have hp1 := hr.part.drop hmR
    have hp2 := hp1.take (m := upTo k (R.length - m)) (by unfold upTo; omega)
    have hcv := conv_part hp2
    obtain ⟨X, hX⟩ : ∃ X : ByteArray, ⟨((R.drop m).take (upTo k (R.length - m))).toArray⟩ = X := ⟨_, rfl⟩
    rw [hX] at hcv ⊢
    have q39 : Calls Try.prog 39 #[.slice (if c = m then ad else Option.map (fun x => x.add m) ad) (R.length - m) (c - m), .int .i64 (k : Int)] w fun e w' => e = .returned (.slice (if c = m then ad else Option.map (fun x => x.add m) ad) (upTo k (R.length - m)) (c - m)) ∧ w = w' := first_bytes (by omega) (by omega) h1 h2
    clear h ht hd hr ha hA hs m0 m1 m2 m3 q15 e1 e2 hR hX hp1 hp2
    by_cases hcm : c = m
    · subst hcm
      rw [if_pos rfl, Nat.sub_self, show R.length - c = 0 by omega] at hcv q39
      have Q39 := Lib.hid q39
      clear q39
      go_enter Try.func22, Try.ntmps22
      go_wp2_with (first
        | (go_at_call 15; (with_reducible refine Q15.out.mono ?_); rintro e w1 ⟨rfl, rfl⟩)
        | (go_at_call 39; (with_reducible refine Q39.out.mono ?_); rintro e w1 ⟨rfl, rfl⟩))
      go_ret2
      exact ⟨rfl, rfl⟩
    · rw [if_neg hcm] at hcv q39
      have Q39 := Lib.hid q39
      clear q39
      go_enter Try.func22, Try.ntmps22
      go_wp2_with (first
        | (go_at_call 15; (with_reducible refine Q15.out.mono ?_); rintro e w1 ⟨rfl, rfl⟩)
        | (go_at_call 39; (with_reducible refine Q39.out.mono ?_); rintro e w1 ⟨rfl, rfl⟩))
      go_ret2
      exact ⟨rfl, rfl⟩
end Go.Proofs.Ytloijbhilfbliaa

/-
  NameNumbers: the law's made.
-/
import Derived.Test.YtioilknfjccfeaaDoorNHas
namespace Go.Proofs.YtioilknfjccfeaaDoor
open Go.RowKit Go.Sort

theorem strs_length (l : List ByteArray) : (strs l).length = l.length := by simp [strs]
theorem strs_append (A B : List ByteArray) : strs (A ++ B) = strs A ++ strs B := by simp [strs]

/-- v is a slice that holds these numbers of 32 bits. -/
def U32s (w : World) (v : Value) (l : List Nat) : Prop :=
  ∃ ad c, v = .slice ad l.length c ∧ ∀ i, i < l.length → l.getD i 0 < 4294967296 ∧ ∃ b o, ad = some ⟨b, o, none⟩ ∧ w.cell? ⟨b, o + i, none⟩ = some (.int .u32 ((l.getD i 0 : Nat) : Int))

namespace Plain
def oneT (k a : Nat) : List ByteArray := [makeT k (1 + a % 1000000000 : Nat), makeT (7 - k : Int) ((1 + a % 1000000000 : Nat) + 1 : Int), man]
/-- The names of a kind that the law makes of numbers, with other names between. -/
def madeT (k : Nat) (o : ByteArray) (l : List Nat) : List ByteArray := o :: l.flatMap (oneT k)
theorem madeT_snoc (k : Nat) (o : ByteArray) (l : List Nat) (a : Nat) : madeT k o (l ++ [a]) = madeT k o l ++ oneT k a := by simp [madeT]
theorem madeT_length (k : Nat) (o : ByteArray) (l : List Nat) : (madeT k o l).length = 1 + 3 * l.length := by
  induction l with
  | nil => rfl
  | cons a l ih => simp [madeT, oneT] at ih ⊢; omega
theorem madeT_size {k : Nat} {o : ByteArray} {l : List Nat} (ho : o.size ≤ 20) : ∀ s ∈ madeT k o l, s.size ≤ 281474976710656 := by
  intro s hs
  rcases List.mem_cons.1 hs with rfl | hs
  · omega
  · obtain ⟨a, -, ha⟩ := List.mem_flatMap.1 hs
    simp only [oneT, List.mem_cons, List.not_mem_nil, or_false] at ha
    rcases ha with rfl | rfl | rfl
    · have := make_size_any k (1 + a % 1000000000 : Nat); omega
    · have := make_size_any (7 - k : Int) ((1 + a % 1000000000 : Nat) + 1 : Int); omega
    · decide
end Plain

theorem news_row (w : World) (vs : List Value) (t : TypeId) : ∀ (j : Nat) (u : Value), vs[j]? = some u → (w.alloc (.cells vs.toArray t)).cell? ((⟨w.heap.size, 0, none⟩ : Addr).add j) = some u := by
  intro j u hj
  rw [show ((⟨w.heap.size, 0, none⟩ : Addr).add j) = ⟨w.heap.size, j, none⟩ by unfold Addr.add; split <;> simp_all]
  rw [World.cell?_alloc_at (hn := rfl)]
  simpa using hj

theorem u32s_cells {w : World} {v : Value} {L : List Nat} (h : U32s w v L) : ∃ ad c, v = .slice ad L.length c ∧ ∀ w', Below w.heap.size w w' → ∀ i, i < L.length → L.getD i 0 < 4294967296 ∧ ∃ b o, ad = some ⟨b, o, none⟩ ∧ w'.cell? ⟨b, o + i, none⟩ = some (.int .u32 ((L.getD i 0 : Nat) : Int)) := by
  obtain ⟨ad, c, hv, hc⟩ := h
  refine ⟨ad, c, hv, fun w' hb i hi => ?_⟩
  obtain ⟨hlt, b, o, ha, hci⟩ := hc i hi
  refine ⟨hlt, b, o, ha, ?_⟩
  rw [hb.cell (p := ⟨b, o + i, none⟩) (block_lt_of_cell hci)]
  exact hci
theorem U32s.below {w w' : World} {v : Value} {l : List Nat} (h : U32s w v l) (hb : Below w.heap.size w w') : U32s w' v l := by
  obtain ⟨ad, c, hv, hc⟩ := u32s_cells h
  exact ⟨ad, c, hv, hc w' hb⟩

theorem i9' : ∃ i0, Tryd.prog.info? 9 = some i0 ∧ i0.zero = some (.string ⟨#[]⟩) ∧ i0.size = 1 ∧ i0.bytes = 16 := info_parts i9

theorem owns_one (w : World) (O : ByteArray) : (w.alloc (.cells #[.string O] 9)).ownsRow w.heap.size 9 1 (.slice (some ⟨w.heap.size, 0, none⟩) 1 1) 1 [.string O] :=
  ⟨rfl, .inr ⟨w.heap.size, 1, #[.string O], rfl, Nat.le_refl _, World.alloc_heap_new w _, Nat.le_refl _, by decide, rfl, rfl⟩⟩

theorem cut_any (s : ByteArray) (m : Nat) : ∃ kp, min s.size m = kp ∧ min (s.size : Int) (m : Int) = (kp : Int) ∧ kp ≤ s.size ∧ kp ≤ m := ⟨_, rfl, by omega, by omega, by omega⟩

set_option maxHeartbeats 1000000 in
set_option maxRecDepth 100000 in
theorem made_any (k : Nat) (hk : k = 3 ∨ k = 4) (l : List Nat) (v : Value) (s : ByteArray) (hs : s.size ≤ 9223372036854775807) (w : World) (hT : Tabs w) (hv : U32s w v l) :
    Calls Tryd.prog 18 #[.int .i64 (k : Int), v, .string s] w fun e w' => (∃ r, e = .returned r ∧ Strs w' r (Plain.madeT k (s.extract 0 (min s.size 20)) (l.take 20))) ∧ Below w.heap.size w w' := by
  obtain ⟨i0, hi, hz0, hz1, hz2⟩ := i9'
  have HT := Lib.hid (fun W (hW : Below w.heap.size w W) => hT.below hW)
  obtain ⟨ad, c, rfl, hc⟩ := u32s_cells hv
  have HC := Lib.hid hc
  obtain ⟨kp, hkp, m1, m3, m4⟩ := cut_any s 20
  have m1 : min (s.size : Int) 20 = (kp : Int) := m1
  have m2 : (kp : Int) ≤ (s.size : Int) := by omega
  obtain ⟨O, hO⟩ : ∃ O, s.extract 0 kp = O := ⟨_, rfl⟩
  have HO : Hid ((w.alloc (.cells #[.string O] 9)).ownsRow w.heap.size 9 1 (.slice (some ⟨w.heap.size, 0, none⟩) 1 1) (Plain.madeT k O []).length (strs (Plain.madeT k O []))) := Lib.hid (owns_one w O)
  rw [hkp, hO]
  have hb0 : Below w.heap.size w (w.alloc (.cells #[.string O] 9)) := below_alloc' (Below.refl _ w)
  have HB0 := Lib.hid hb0
  clear hb0 hT hc hv hkp
  go_enter Tryd.func18, Tryd.ntmps18
  go_wp2
  generalize w.alloc (.cells #[.string O] 9) = w0 at HO HB0 ⊢
  clear m1 m2 m3 m4 hO
  go_loopw [7, 8] (fun s7 s8 wr => ∃ (i nl : Nat), i ≤ 20 ∧ i ≤ l.length ∧ s8 = .int .i64 i ∧ nl = 1 + 3 * i ∧ wr.ownsRow w.heap.size 9 1 s7 nl (strs (Plain.madeT k O (l.take i))) ∧ Below w.heap.size w wr) (fun _ s8 _ => 20 - (intOf s8).toNat)
  case atStart => exact ⟨0, 1, by omega, by omega, rfl, rfl, HO.out, HB0.out⟩
  case round =>
    obtain ⟨i, nl, hi20, hil, rfl, hnl, hown, hb⟩ := hrel
    have HB := Lib.hid hb
    clear hb
    by_cases hlt : i < l.length
    · have e19 : decide ((i : Int) < (l.length : Int)) = true := decide_eq_true (by omega)
      have hlt' : (i : Int) < (l.length : Int) := by omega
      by_cases h20 : i < 20
      · have e22 : decide ((i : Int) < 20) = true := decide_eq_true (by omega)
        have h20' : (i : Int) < 20 := by omega
        obtain ⟨hab, b, o, rfl, hcell⟩ := HC.out wr HB.out i hlt
        have HS := Lib.hid (take_snocN l i hlt)
        obtain ⟨a, ha⟩ : ∃ a, l.getD i 0 = a := ⟨_, rfl⟩
        rw [ha] at hcell hab HS
        clear ha
        obtain ⟨n, hn⟩ : ∃ n : Nat, (1 : Int) + (a : Int) % 1000000000 = (n : Int) := ⟨1 + a % 1000000000, by omega⟩
        obtain ⟨k2, hk2⟩ : ∃ k2 : Nat, (7 : Int) - (k : Int) = (k2 : Int) := ⟨7 - k, by omega⟩
        have hnn : n = 1 + a % 1000000000 := by omega
        have HONE : Hid (Plain.oneT k a = [Plain.makeT k (n : Nat), Plain.makeT k2 ((n : Nat) + 1 : Int), Plain.man]) := Lib.hid (by rw [hnn, ← hk2]; rfl)
        have hn9 : n ≤ 1000000000 := by omega
        have M1 := Lib.hid (fun W (hW : Below w.heap.size w W) => make_any (k : Int) (n : Int) W (HT.out W hW))
        have M2 := Lib.hid (fun W (hW : Below w.heap.size w W) => make_any (k2 : Int) ((n : Int) + 1) W (HT.out W hW))
        obtain ⟨X, hX⟩ : ∃ X, Plain.makeT k (n : Nat) = X := ⟨_, rfl⟩
        obtain ⟨Y, hY⟩ : ∃ Y, Plain.makeT k2 ((n : Nat) + 1 : Int) = Y := ⟨_, rfl⟩
        rw [hX] at M1 HONE
        rw [hY] at M2 HONE
        have HNL := Lib.hid hnl
        have hnl1 : nl ≤ 61 := by omega
        clear hX hY hnn hnl
        go_wp2_with (first
          | (go_at_call 11; first
              | ((with_reducible refine (M1.out _ HB.out).mono ?_); rintro e w1 ⟨rfl, hb1⟩; replace hown := hown.kept (grown_of_below hb1) (by cases Value.ownBlock _ <;> simp); have HB1 := Lib.hid (Below.next HB.out hb1); clear hb1)
              | ((with_reducible refine (M2.out _ HB1.out).mono ?_); rintro e w2 ⟨rfl, hb2⟩; replace hown := hown.kept (grown_of_below hb2) (by cases Value.ownBlock _ <;> simp); have HB2 := Lib.hid (Below.next HB1.out hb2); clear hb2))
          | (at_builtin; refine wpList_append_own _ rfl _ _ 23 rfl w.heap.size 9 i0 (.string ⟨#[]⟩) 1 16 Tryd.underlying23 hi hz0 hz1 hz2 rfl (by decide) _ _ _ rfl (hown.alloc _) ⟨w2.heap.size, 0, none⟩ 3 3 [.string X, .string Y, .string ⟨#[109, 97, 110, 105, 102, 101, 115, 116]⟩] rfl rfl (news_row _ _ _) (by intro u hu; simp at hu; rcases hu with rfl | rfl | rfl <;> rfl) (by unfold maxLen; omega) (by omega) (by have := HB2.out.size; simp; omega) ?_; intro v' w3 hown3 hgrow _))
        have hb3 : Below w.heap.size w w3 := (HB2.out.alloc HB2.out.size _).grown hgrow (by have := HB2.out.size; simp; omega) (fun k hk => (hown.lt k hk).1)
        refine ⟨⟨i + 1, nl + 3, by omega, by omega, by go_num, by have := HNL.out; omega, ?_, hb3⟩, by simp [intOf]; omega⟩
        rw [HS.out, Plain.madeT_snoc, HONE.out, strs_append]
        exact hown3
      · have e22 : decide ((i : Int) < 20) = false := decide_eq_false (by omega)
        have h20' : ¬ (i : Int) < 20 := by omega
        obtain rfl : i = 20 := by omega
        have HR : Hid (Strs wr _ (Plain.madeT k O (l.take 20))) := Lib.hid (strs_of_owns (by rw [Plain.madeT_length, List.length_take, Nat.min_eq_left (by omega), ← hnl]; exact hown))
        clear hown hnl
        go_wp2
        go_ret
        exact ⟨⟨_, rfl, HR.out⟩, HB.out⟩
    · have e19 : decide ((i : Int) < (l.length : Int)) = false := decide_eq_false (by omega)
      have hlt' : ¬ (i : Int) < (l.length : Int) := by omega
      obtain rfl : i = l.length := by omega
      have HR : Hid (Strs wr _ (Plain.madeT k O (l.take 20))) := Lib.hid (strs_of_owns (by rw [List.take_length] at hown; rw [List.take_of_length_le (by omega), Plain.madeT_length, ← hnl]; exact hown))
      clear hown hnl
      go_wp2
      go_ret
      exact ⟨⟨_, rfl, HR.out⟩, HB.out⟩
end Go.Proofs.YtioilknfjccfeaaDoor

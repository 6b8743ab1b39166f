/-
  Entries that are drawn: what a draft says, and lists of drafts.
-/
import Derived.Test.YtfnmmnbndfdpiaaEWithR
namespace Go.Proofs.Ytfnmmnbndfdpiaa
open Go.RowKit Go.Sort

/-- A draft: letters by numbers, a weight, whether it is gone. -/
structure Draft where
  letters : List Nat
  weight : Nat
  gone : Bool

/-- The letter of a number. -/
def letN (c : Nat) : Nat := if c % 8 < 7 then 97 + c % 8 % 3 else c
/-- The first letters. -/
def lets (cs : List Nat) : List UInt8 := cs.map fun c => UInt8.ofNat (letN c)
def draftWord (d : Draft) : ByteArray := if d.letters = [] then ⟨#[97]⟩ else ⟨(lets (d.letters.take 9)).toArray⟩
/-- What a draft says. -/
def draftE (d : Draft) : Ent := bare ⟨draftWord d, d.weight, d.gone⟩

/-- Bytes in memory. -/
def Nums8 (w : World) (v : Value) (l : List Nat) : Prop :=
  ∃ ad c, v = .slice ad l.length c ∧ ∀ i, i < l.length → ∃ b o, ad = some ⟨b, o, none⟩ ∧ w.cell? ⟨b, o + i, none⟩ = some (.int .u8 (l.getD i 0 : Nat))

/-- A draft by value. -/
structure DraftV (w : World) (v : Value) (d : Draft) : Prop where
  lets : ∃ u, v = .agg #[u, .int .u32 (d.weight : Int), .bool d.gone] ∧ Nums8 w u d.letters
  small : ∀ c ∈ d.letters, c < 256

theorem Nums8.below {w w' : World} {v : Value} {l : List Nat} (h : Nums8 w v l) (hb : RowKit.Below w.heap.size w w') : Nums8 w' v l := by
  obtain ⟨ad, c, hv, hc⟩ := h
  refine ⟨ad, c, hv, fun i hi => ?_⟩
  obtain ⟨b, o, ha, hci⟩ := hc i hi
  refine ⟨b, o, ha, ?_⟩
  rw [hb.cell (p := ⟨b, o + i, none⟩) (block_lt_of_cell hci)]
  exact hci

theorem DraftV.below {w w' : World} {v : Value} {d : Draft} (h : DraftV w v d) (hb : RowKit.Below w.heap.size w w') : DraftV w' v d := by
  obtain ⟨u, hv, hn⟩ := h.lets
  exact ⟨⟨u, hv, hn.below hb⟩, h.small⟩

theorem letN_lt {c : Nat} (h : c < 256) : letN c < 256 := by unfold letN; split <;> omega

set_option maxRecDepth 100000 in
theorem rowOf_one (W : World) (n : Nat) (hn : n < 256) : (convert 49 9 (.slice (some ⟨W.heap.size, 0, none⟩) 1 1)).run Try.prog (W.alloc (.cells #[.int .u8 (n : Int)] 5)) = .ok (.string ⟨#[UInt8.ofNat n]⟩) (W.alloc (.cells #[.int .u8 (n : Int)] 5)) := by
  have hrow : RowOf (W.alloc (.cells #[.int .u8 (n : Int)] 5)) W.heap.size [UInt8.ofNat n] := by
    constructor
    · intro i hi
      have : i = 0 := by simpa using hi
      subst this
      simp [Nat.mod_eq_of_lt hn]
    · intro i _
      exact World.frozen?_alloc_at (w := W) (hn := rfl) ..
  exact rowOf_str (c := 1) hrow

theorem str_snoc (A : List UInt8) (x : UInt8) : (⟨A.toArray⟩ : ByteArray) ++ ⟨#[x]⟩ = ⟨(A ++ [x]).toArray⟩ := by
  apply ba_ext
  rw [ba_append]

theorem lets_snoc (cs : List Nat) (k : Nat) (h : k < cs.length) : lets (cs.take (k + 1)) = lets (cs.take k) ++ [UInt8.ofNat (letN (cs.getD k 0))] := by
  unfold lets
  rw [List.take_succ_eq_append_getElem h, List.map_append]
  simp [List.getD, h]

set_option maxHeartbeats 1000000 in
set_option maxRecDepth 100000 in
theorem draft_any (d : Draft) (v : Value) (w : World) (hd : DraftV w v d) (hlen : d.letters.length ≤ 9223372036854775807) :
    Calls Try.prog 28 #[v] w fun e w' => e = .returned (.agg (enc (draftE d)).toArray) ∧ RowKit.Below w.heap.size w w' := by
  obtain ⟨⟨u, rfl, hn⟩, hs⟩ := hd
  obtain ⟨ad, cp, rfl, hc⟩ := hn
  obtain ⟨cs, wt, gn⟩ := d
  simp only at hs hc hlen ⊢
  have HC : Hid (∀ W, RowKit.Below w.heap.size w W → ∀ i, i < cs.length → ∃ b o, ad = some ⟨b, o, none⟩ ∧ W.cell? ⟨b, o + i, none⟩ = some (.int .u8 (cs.getD i 0 : Nat))) := Lib.hid fun W hW i hi => by
    obtain ⟨b, o, ha, hE⟩ := hc i hi
    exact ⟨b, o, ha, by rw [hW.cell (p := ⟨b, o + i, none⟩) (block_lt_of_cell hE)]; exact hE⟩
  have HS := Lib.hid hs
  obtain ⟨z, hz⟩ : ∃ z, draftE ⟨cs, wt, gn⟩ = z := ⟨_, rfl⟩
  rw [hz]
  have HZ := Lib.hid hz
  unfold enc
  clear hc hs hz
  go_enter Try.func28, Try.ntmps28
  go_wp2
  generalize hW1 : (w.alloc (.cells #[.slice ad cs.length cp, .int .u32 (wt : Int), .bool gn] 51)).alloc (.cells #[.string ⟨#[]⟩, .int .u32 0, .bool false] 24) = W1
  have hb01 : RowKit.Below w.heap.size w W1 := by rw [← hW1]; exact below_two_allocs _ _ _
  have hz1 : W1.heap.size = w.heap.size + 2 := by rw [← hW1]; simp
  have HBX : Hid (∀ W, RowKit.Below W1.heap.size W1 W → (W.cell? ⟨w.heap.size, 0, none⟩ = some (.slice ad cs.length cp) ∧ W.cell? ⟨w.heap.size, 1, none⟩ = some (.int .u32 (wt : Int)) ∧ W.cell? ⟨w.heap.size, 2, none⟩ = some (.bool gn)) ∧
      (W.cell? ⟨w.heap.size + 1, 0, none⟩ = some (.string ⟨#[]⟩) ∧ W.cell? ⟨w.heap.size + 1, 1, none⟩ = some (.int .u32 0) ∧ W.cell? ⟨w.heap.size + 1, 2, none⟩ = some (.bool false))) := Lib.hid fun W hW => by
    have f : ∀ b o, b < w.heap.size + 2 → W.cell? ⟨b, o, none⟩ = W1.cell? ⟨b, o, none⟩ := fun b o h => hW.cell (p := ⟨b, o, none⟩) (by rw [hz1]; exact h)
    refine ⟨⟨?_, ?_, ?_⟩, ?_, ?_, ?_⟩
    all_goals (rw [f _ _ (by omega), ← hW1]; simp)
  have HFZ : Hid (∀ W, RowKit.Below W1.heap.size W1 W → ∀ o, W.frozen? ⟨w.heap.size + 1, o, none⟩ = false) := Lib.hid fun W hW o => by
    rw [hW.frozen (p := ⟨w.heap.size + 1, o, none⟩) (by rw [hz1]; show w.heap.size + 1 < _; omega), ← hW1]
    simp
  have HW1 := Lib.hid hW1
  clear hW1
  go_loopw [3, 4] (fun s3 s4 wr => ∃ k : Nat, k ≤ cs.length ∧ k ≤ 9 ∧ s3 = .string ⟨(lets (cs.take k)).toArray⟩ ∧ s4 = .int .i64 k ∧ RowKit.Below W1.heap.size W1 wr) (fun _ s4 _ => 9 - (intOf s4).toNat)
  case atStart => exact ⟨0, Nat.zero_le _, Nat.zero_le _, rfl, rfl, RowKit.Below.refl _ _⟩
  case round =>
    obtain ⟨k, hk, hk9, rfl, rfl, hb⟩ := hrel
    obtain ⟨⟨g1, g2, g3⟩, g4, g5, g6⟩ := HBX.out wr hb
    have hbw := Below.next hb01 hb
    by_cases hlt : k < cs.length ∧ k < 9
    · obtain ⟨hl1, hl2⟩ := hlt
      have hd1 : decide ((k : Int) < (cs.length : Int)) = true := decide_eq_true (by omega)
      have hd2 : decide ((k : Int) < 9) = true := decide_eq_true (by omega)
      obtain ⟨b, o, rfl, hE⟩ := HC.out _ hbw k hl1
      have hsn := lets_snoc cs k hl1
      obtain ⟨n, hn⟩ : ∃ n, cs.getD k 0 = n := ⟨_, rfl⟩
      have hn8 : n < 256 := by rw [← hn]; exact HS.out _ (by simp [List.getD, hl1])
      rw [hn] at hE hsn
      obtain ⟨m, hm⟩ : ∃ m, letN n = m := ⟨_, rfl⟩
      have hm8 : m < 256 := by rw [← hm]; exact letN_lt hn8
      rw [hm] at hsn
      have hcv := rowOf_one wr m hm8
      have hAl : (lets (cs.take k)).length ≤ k := by unfold lets; rw [List.length_map]; exact List.length_take_le _ _
      obtain ⟨A, hA⟩ : ∃ A, lets (cs.take k) = A := ⟨_, rfl⟩
      rw [hA] at hsn hAl ⊢
      have HSN := Lib.hid hsn
      clear hn hA hsn
      by_cases h7 : n % 8 < 7
      · have c1 : decide ((n : Int) % 8 < 7) = true := decide_eq_true (by omega)
        have e1 : 97 + (n : Int) % 8 % 3 = (m : Int) := by unfold letN at hm; rw [if_pos h7] at hm; omega
        clear hm h7
        go_wp2
        exact ⟨⟨k + 1, by omega, by omega, by rw [HSN.out, str_snoc], by go_num, below_alloc' hb⟩, by simp [intOf]; omega⟩
      · have c1 : decide ((n : Int) % 8 < 7) = false := decide_eq_false (by omega)
        obtain rfl : n = m := by unfold letN at hm; rw [if_neg h7] at hm; exact hm
        clear h7
        go_wp2
        exact ⟨⟨k + 1, by omega, by omega, by rw [HSN.out, str_snoc], by go_num, below_alloc' hb⟩, by simp [intOf]; omega⟩
    · have hkk : k = min cs.length 9 := by omega
      have hS : draftWord ⟨cs, wt, gn⟩ = if cs = [] then ⟨#[97]⟩ else ⟨(lets (cs.take k)).toArray⟩ := by
        unfold draftWord
        simp only
        rw [show cs.take k = cs.take 9 by
          rcases Nat.le_total cs.length 9 with h | h
          · rw [hkk, Nat.min_eq_left h, List.take_length, List.take_of_length_le h]
          · rw [hkk, Nat.min_eq_right h]]
      have q44 := fun w0 => refBare_any ⟨draftWord ⟨cs, wt, gn⟩, wt, gn⟩ w0
      rw [show bare ⟨draftWord ⟨cs, wt, gn⟩, wt, gn⟩ = draftE ⟨cs, wt, gn⟩ from rfl, HZ.out] at q44
      unfold enc at q44
      simp only at q44
      have hd : ¬ k < cs.length ∨ (k < cs.length ∧ decide ((k : Int) < 9) = false) := by
        rcases Nat.lt_or_ge k cs.length with h | h
        · exact .inr ⟨h, decide_eq_false (by omega)⟩
        · exact .inl (by omega)
      by_cases hcs : cs = []
      · rw [hcs, if_pos rfl] at hS
        have hk0 : k = 0 := by rw [hkk, hcs]; rfl
        subst hk0
        have hl : lets (cs.take 0) = [] := rfl
        rw [hl]
        rw [hcs] at q44
        rw [hS] at q44
        have hd1 : ¬ 0 < cs.length := by rw [hcs]; simp
        clear hd hS hkk hlt hcs
        go_wp2_with (go_at_call 44; (with_reducible refine (q44 _).mono ?_); rintro e w1 ⟨rfl, hb1⟩; have hf1 := HFZ.out _ (Below.next hb hb1); have hbx := (HBX.out _ (Below.next hb hb1)).2; obtain ⟨m0, m1, m2⟩ := hbx)
        obtain ⟨k0, k1, k2⟩ := (HBX.out _ (Below.next hb hb1)).2
        have hbw2 := Below.next hbw hb1
        have k3 := set3 k0 k1 k2 (.string z.word) (.int .u32 z.weight) (.bool z.gone)
        have hbw3 := ((hbw2.setCell (p := ⟨w.heap.size + 1, 0, none⟩) (Nat.le_succ _) (.string z.word)).setCell (p := ⟨w.heap.size + 1, 1, none⟩) (Nat.le_succ _) (.int .u32 z.weight)).setCell (p := ⟨w.heap.size + 1, 2, none⟩) (Nat.le_succ _) (.bool z.gone)
        generalize ((w1.setCell ⟨w.heap.size + 1, 0, none⟩ (.string z.word)).setCell ⟨w.heap.size + 1, 1, none⟩ (.int .u32 z.weight)).setCell ⟨w.heap.size + 1, 2, none⟩ (.bool z.gone) = w3 at k3 hbw3 ⊢
        obtain ⟨k4, k5, k6⟩ := k3
        exact bodyPost_ret (v := .agg #[.string z.word, .int .u32 z.weight, .bool z.gone]) (by simp [results, Try.results28, go_sem, k4, k5, k6]) rfl ⟨rfl, hbw3⟩
      · rw [if_neg hcs] at hS
        have hk1 : 0 < k := by
          have : 0 < cs.length := List.length_pos_iff.2 hcs
          omega
        have hne : lets (cs.take k) ≠ [] := by
          intro h
          have h2 := congrArg List.length h
          unfold lets at h2
          rw [List.length_map, List.length_take, List.length_nil] at h2
          have : 0 < cs.length := List.length_pos_iff.2 hcs
          omega
        rw [hS] at q44
        obtain ⟨A, hA⟩ : ∃ A, lets (cs.take k) = A := ⟨_, rfl⟩
        rw [hA] at hne q44 ⊢
        have he1 : A.isEmpty = false := by simpa using hne
        clear hS hkk hlt hcs hA hne hk1
        rcases hd with hd1 | ⟨hd1, hd2⟩
        all_goals
          go_wp2_with (go_at_call 44; (with_reducible refine (q44 _).mono ?_); rintro e w1 ⟨rfl, hb1⟩; have hf1 := HFZ.out _ (Below.next hb hb1); have hbx := (HBX.out _ (Below.next hb hb1)).2; obtain ⟨m0, m1, m2⟩ := hbx)
          obtain ⟨k0, k1, k2⟩ := (HBX.out _ (Below.next hb hb1)).2
          have hbw2 := Below.next hbw hb1
          have k3 := set3 k0 k1 k2 (.string z.word) (.int .u32 z.weight) (.bool z.gone)
          have hbw3 := ((hbw2.setCell (p := ⟨w.heap.size + 1, 0, none⟩) (Nat.le_succ _) (.string z.word)).setCell (p := ⟨w.heap.size + 1, 1, none⟩) (Nat.le_succ _) (.int .u32 z.weight)).setCell (p := ⟨w.heap.size + 1, 2, none⟩) (Nat.le_succ _) (.bool z.gone)
          generalize ((w1.setCell ⟨w.heap.size + 1, 0, none⟩ (.string z.word)).setCell ⟨w.heap.size + 1, 1, none⟩ (.int .u32 z.weight)).setCell ⟨w.heap.size + 1, 2, none⟩ (.bool z.gone) = w3 at k3 hbw3 ⊢
          obtain ⟨k4, k5, k6⟩ := k3
          exact bodyPost_ret (v := .agg #[.string z.word, .int .u32 z.weight, .bool z.gone]) (by simp [results, Try.results28, go_sem, k4, k5, k6]) rfl ⟨rfl, hbw3⟩
end Go.Proofs.Ytfnmmnbndfdpiaa

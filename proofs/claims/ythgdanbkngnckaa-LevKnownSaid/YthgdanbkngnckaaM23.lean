/-
  lev's foreign, leads, apart, Bytes. lev's apart and Bytes. The chapter's examples: the statements' works. What the statements ask with: few, bound, a state's questions. LevDead's walk.
-/
import Derived.Test.YthgdanbkngnckaaM11
import Derived.Test.YthgdanbkngnckaaM22
import Derived.Lib.IndexLaws
set_option linter.unusedVariables false
set_option linter.unusedSimpArgs false
namespace Go.Proofs.Ythgdanbkngnckaa
open Go.RowKit Go.Shelf Said

theorem index_in {l : List UInt8} {c : UInt8} (h : 0 ≤ Lib.indexByte l c) : c ∈ l := by
  obtain ⟨o, ho⟩ : ∃ o : Nat, Lib.indexByte l c = (o : Int) := ⟨(Lib.indexByte l c).toNat, by omega⟩
  exact List.mem_of_getElem? (Lib.indexByte_some ho).1
theorem index_out {l : List UInt8} {c : UInt8} (h : ¬ 0 ≤ Lib.indexByte l c) : c ∉ l := by
  have h1 := Lib.indexByte_ge l c
  have h2 : Lib.indexByte l c = -1 := by omega
  intro hm
  obtain ⟨k, hk, e⟩ := List.getElem_of_mem hm
  exact Lib.indexByte_none h2 k (by rw [List.getElem?_eq_getElem hk, e])

theorem sub_len {α : Type} [DecidableEq α] : ∀ (l m : List α), l.Nodup → (∀ x ∈ l, x ∈ m) → l.length ≤ m.length
  | [], _, _, _ => Nat.zero_le _
  | x :: l, m, hn, hs => by
    have hx := hs x List.mem_cons_self
    have hn' := List.nodup_cons.1 hn
    have h1 := sub_len l (m.erase x) hn'.2 fun y hy => (List.mem_erase_of_ne (fun e : y = x => hn'.1 (by rw [← e]; exact hy))).2 (hs y (List.mem_cons_of_mem _ hy))
    rw [List.length_erase_of_mem hx] at h1
    have h2 := List.length_pos_of_mem hx
    rw [List.length_cons]
    omega
/-- Not all bytes are among so few. -/
theorem not_all {q : List UInt8} (hq : q.length ≤ 255) (h : ∀ i, i < 256 → UInt8.ofNat i ∈ q) : False := by
  have h1 : (List.range 256).length ≤ (q.map UInt8.toNat).length := by
    exact sub_len _ _ List.nodup_range fun i hi => by
      have hi := List.mem_range.1 hi
      refine List.mem_map.2 ⟨UInt8.ofNat i, h i hi, ?_⟩
      simp
      omega
  simp at h1
  omega

set_option maxRecDepth 100000 in
theorem foreign_any {q : ByteArray} {p k : Nat} {w : World} (hA : AutoAt w p q k) (hq : q.size ≤ 255) :
    Calls Try.prog 61 #[.pointer (some ⟨p, 0, none⟩)] w fun e w' => (∃ c : UInt8, e = .returned (.int .u8 (c.toNat : Int)) ∧ c ∉ q.data.toList) ∧ w = w' := by
  have c0 := hA.1
  have HQ := Lib.hid hq
  clear hA
  go_enter Try.func61, Try.ntmps61
  go_wp2
  go_loop [3] (fun s3 => ∃ j : Nat, j < 256 ∧ s3 = .int .u8 (j : Int) ∧ Hid (∀ i, i < j → UInt8.ofNat i ∈ q.data.toList)) (fun s3 => 256 - (intOf s3).toNat)
  case atStart => exact ⟨0, by omega, rfl, Lib.hid fun i hi => by omega⟩
  case round =>
    obtain ⟨j, hj, rfl, HJ⟩ := hrel
    have e8 : ((j : Int)).toNat.toUInt8 = UInt8.ofNat j := rfl
    have QI := Lib.hid (Try.strings_IndexByte q (j : Int) w)
    rw [e8] at QI
    obtain ⟨x, hx⟩ : ∃ x, Lib.indexByte q.data.toList (UInt8.ofNat j) = x := ⟨_, rfl⟩
    rw [hx] at QI
    by_cases hin : 0 ≤ x
    · have hall : ∀ i, i < j + 1 → UInt8.ofNat i ∈ q.data.toList := fun i hi => by
        by_cases e : i = j
        · subst e; exact index_in (by rw [hx]; exact hin)
        · exact HJ.out i (by omega)
      have hj2 : j + 1 < 256 := by
        by_cases e : j + 1 < 256
        · exact e
        · exact (not_all (by rw [ba_length]; exact HQ.out) (fun i hi => hall i (by omega))).elim
      have HALL := Lib.hid hall
      have e1 : decide (x ≥ 0) = true := by simp; omega
      have e2 : decide (0 ≤ x) = true := by simp; omega
      have w8 : IntKind.u8.wrap ((j : Int) + 1) = ((j + 1 : Nat) : Int) := wrap8 (by omega)
      clear hall hx e8
      go_wp2_with (go_at_call 74; (with_reducible refine QI.out.mono ?_); rintro e w' ⟨rfl, rfl⟩)
      go_round
      case rel => exact ⟨j + 1, hj2, by go_num, HALL⟩
      case measure => simp [intOf]; omega
    · have e1 : decide (x ≥ 0) = false := by simp; omega
      have e2 : decide (0 ≤ x) = false := by simp; omega
      have HO := Lib.hid (index_out (by rw [hx]; exact hin))
      clear hx e8
      go_wp2_with (go_at_call 74; (with_reducible refine QI.out.mono ?_); rintro e w' ⟨rfl, rfl⟩)
      go_ret
      refine ⟨⟨UInt8.ofNat j, ?_, HO.out⟩, rfl⟩
      have : (UInt8.ofNat j).toNat = j := by simp; omega
      rw [this]
      rfl

/-! ### leads -/
/-- The key of the state that a byte leads to. -/
def keyL (q : List UInt8) (k : Nat) (r : List Nat) (c : UInt8) : List UInt8 := (bin (stepL q k r c)).data.toList
theorem bin_inj {q : List UInt8} {k : Nat} {r r' : List Nat} (hk : k ≤ 3) (h : IsL q k r) (h' : IsL q k r') (e : (bin r).data.toList = (bin r').data.toList) : r = r' := by
  rw [← nums_of h hk, ← nums_of h' hk, ba_ext e]
theorem keyL_inj {q : List UInt8} {k : Nat} {r : List Nat} {b c : UInt8} (hk : k ≤ 3) (e : keyL q k r b = keyL q k r c) : stepL q k r b = stepL q k r c := bin_inj hk (stepL_is _ _ _ _) (stepL_is _ _ _ _) e

/-- What the map has when the first n bytes have been looked at. -/
structure LdT (q : List UInt8) (k : Nat) (r : List Nat) (n : Nat) (K : List UInt8 → Prop) (g : List UInt8 → UInt8) : Prop where
  has : ∀ i, i < n → r.getD i 0 ≤ k → K (keyL q k r (q.getD i 0))
  of : ∀ y, K y → ∃ i, i < n ∧ r.getD i 0 ≤ k ∧ g y = q.getD i 0 ∧ y = keyL q k r (q.getD i 0)

theorem LdT.skip {q : List UInt8} {k : Nat} {r : List Nat} {n : Nat} {K : List UInt8 → Prop} {g : List UInt8 → UInt8} (h : LdT q k r n K g) (hn : ¬ r.getD n 0 ≤ k) : LdT q k r (n + 1) K g :=
  ⟨fun i hi hr => h.has i (by by_cases e : i = n; · subst e; exact (hn hr).elim
                              · omega) hr, fun y hy => by obtain ⟨i, h1, h2⟩ := h.of y hy; exact ⟨i, by omega, h2⟩⟩
theorem LdT.put {q : List UInt8} {k : Nat} {r : List Nat} {n : Nat} {K : List UInt8 → Prop} {g : List UInt8 → UInt8} (h : LdT q k r n K g) (hn : r.getD n 0 ≤ k) {c : UInt8} (hc : q.getD n 0 = c) {t : List UInt8} (ht : t = keyL q k r c) :
    LdT q k r (n + 1) (fun y => y = t ∨ K y) (fun y => if y = t then c else g y) := by
  subst hc ht
  refine ⟨fun i hi hr => ?_, fun y hy => ?_⟩
  · by_cases e : i = n
    · subst e; exact .inl rfl
    · exact .inr (h.has i (by omega) hr)
  · by_cases e : y = keyL q k r (q.getD n 0)
    · exact ⟨n, by omega, hn, by simp only [if_pos e], e⟩
    · rcases hy with hy | hy
      · exact (e hy).elim
      · obtain ⟨i, h1, h2, h3, h4⟩ := h.of y hy
        exact ⟨i, by omega, h2, by simp only [if_neg e]; exact h3, h4⟩

/-- The bytes that lead elsewhere. -/
def TellsB (q : List UInt8) (k : Nat) (r : List Nat) (o : UInt8) (x : UInt8) : Prop := x ∈ q ∧ stepL q k r x ≠ stepL q k r o
theorem LdT.tells {q : List UInt8} {k : Nat} {r : List Nat} {K : List UInt8 → Prop} {g : List UInt8 → UInt8} (h : LdT q k r q.length K g) (hk : k ≤ 3) {o : UInt8} (ho : o ∉ q) {ko : List UInt8} (hko : ko = keyL q k r o) :
    (∀ x, TellsB q k r o x ↔ ∃ y, (y ≠ ko ∧ K y) ∧ g y = x) ∧ OneS (fun y => y ≠ ko ∧ K y) g := by
  subst hko
  have key : ∀ y, y ≠ keyL q k r o ∧ K y → y = keyL q k r (g y) ∧ TellsB q k r o (g y) := fun y ⟨h1, h2⟩ => by
    obtain ⟨i, hi, hr, hg, hy⟩ := h.of y h2
    rw [← hg] at hy
    refine ⟨hy, ?_, fun e => h1 ?_⟩
    · rw [hg]; simp [List.getD, hi]
    · rw [hy, keyL, e]; rfl
  refine ⟨fun x => ⟨fun ⟨hx, hne⟩ => ?_, fun ⟨y, hy, e⟩ => ?_⟩, fun x y hx hy e => ?_⟩
  · obtain ⟨i, hi, hq, hr⟩ := leads_in ho hne
    have hK := h.has i hi hr
    rw [hq] at hK
    have hky : keyL q k r x ≠ keyL q k r o := fun e => hne (keyL_inj hk e)
    refine ⟨keyL q k r x, ⟨hky, hK⟩, ?_⟩
    obtain ⟨e, -, hne2⟩ := key _ ⟨hky, hK⟩
    exact (leads_one ho hne (keyL_inj hk e)).symm
  · rw [← e]; exact (key y hy).2
  · rw [(key x hx).1, (key y hy).1, e]

structure LdS (w : World) (q : ByteArray) (k : Nat) (r : List Nat) (b m n : Nat) (W : World) : Prop where
  cells : ∀ i, i < q.size → W.cell? ⟨b, i, none⟩ = some (.int .u8 ((q.data.toList.getD i 0).toNat : Int))
  map : ∃ N K g, N ≤ n ∧ SMap W m N K g ∧ LdT q.data.toList k r n K g
  bel : Below w.heap.size w W
  ne : b ≠ m
  hm : w.heap.size ≤ m
theorem LdS.below {w : World} {q : ByteArray} {k : Nat} {r : List Nat} {b m n : Nat} {W W' : World} (h : LdS w q k r b m n W) (hb : Below W.heap.size W W') : LdS w q k r b m n W' := by
  obtain ⟨N, K, g, h1, h2, h3⟩ := h.map
  exact ⟨fun i hi => by rw [hb.cell (block_lt_of_cell (h.cells i hi))]; exact h.cells i hi, ⟨N, K, g, h1, h2.same (hb.block m h2.lt), h3⟩, Below.next h.bel hb, h.ne, h.hm⟩

set_option maxHeartbeats 2000000 in
set_option maxRecDepth 100000 in
theorem leads_any {q s : ByteArray} {p k : Nat} {w : World} (hA : AutoAt w p q k) (hk : k ≤ 3) (hq : q.size ≤ 255) (hs : IsL q.data.toList k (nums s)) :
    Calls Try.prog 62 #[.pointer (some ⟨p, 0, none⟩), .string s] w fun e w' => ∃ m N K g, e = .returned (.map (some m)) ∧ SMap w' m N K g ∧ LdT q.data.toList k (nums s) q.data.toList.length K g ∧ Below w.heap.size w w' ∧ w.heap.size ≤ m := by
  have c0 := hA.1
  have hsz : s.size = q.size + 1 := by rw [← nums_length, hs.1, ba_length]
  have HA := Lib.hid hA
  have HS := Lib.hid hs
  have hmm := @run_makeMap Try.prog
  have M0 := smap_made w (fun _ => 0)
  have B0 : Below w.heap.size w (w.alloc (.map #[] 0)) := below_alloc w _
  have Z0 : (w.alloc (.map #[] 0)).heap.size = w.heap.size + 1 := by simp
  have HSZ := Lib.hid hsz
  clear hA hs hsz
  go_enter Try.func62, Try.ntmps62
  go_upto_region 2 with fail
  obtain ⟨w1, hw1⟩ : ∃ w1, w1 = w.alloc (.map #[] 0) := ⟨_, rfl⟩
  rw [← hw1] at M0 B0 Z0 ⊢
  clear hw1 hmm
  obtain ⟨m, hm⟩ : ∃ m, m = w.heap.size := ⟨_, rfl⟩
  rw [← hm] at M0 ⊢
  have hcv := Lib.run_convert_string_bytes (P := Try.prog) w1 9 38 5 q Try.underlying9 Try.underlying38 Try.underlying5
  have B1 := below_conv w1 q
  have C1 : ∀ i, i < q.size → (Lib.bytesWorld w1 5 q).cell? ⟨w1.heap.size, i, none⟩ = some (.int .u8 ((q.data.toList.getD i 0).toNat : Int)) := fun i hi => Lib.bytesWorld_cell w1 5 q i hi
  obtain ⟨b, hb⟩ : ∃ b, b = w1.heap.size := ⟨_, rfl⟩
  obtain ⟨w2, hw2⟩ : ∃ w2, w2 = Lib.bytesWorld w1 5 q := ⟨_, rfl⟩
  obtain ⟨cp, hcp⟩ : ∃ cp, cp = grownCap w1 q.size 0 5 := ⟨_, rfl⟩
  have hbm : b ≠ m := by omega
  rw [← hw2, ← hb] at C1
  rw [← hw2, ← hb, ← hcp] at hcv
  rw [← hw2] at B1
  have c1 : w1.cell? ⟨p, 0, none⟩ = some (.string q) := by rw [B0.cell (block_lt_of_cell c0)]; exact c0
  have L0 : Hid (LdS w q k (nums s) b m 0 w2) := Lib.hid ⟨C1, ⟨0, _, _, Nat.le_refl _, M0.same (B1.block m (by omega)), ⟨fun i hi => by omega, fun y hy => hy.elim⟩⟩, Below.next B0 B1, hbm, by omega⟩
  clear M0 B0 B1 Z0 C1 c0 hb hw2 hcp hbm hm
  go_wp2
  go_loopw [15] (fun s15 wr => ∃ j : Nat, j ≤ q.size ∧ s15 = .int .i64 (j : Int) ∧ Hid (LdS w q k (nums s) b m j wr)) (fun s15 _ => q.size - (intOf s15).toNat)
  case atStart => exact ⟨0, Nat.zero_le _, rfl, L0⟩
  case round =>
    obtain ⟨j, hj, rfl, HL⟩ := hrel
    by_cases hlt : j < q.size
    · have e4 : decide ((j : Int) < (q.size : Int)) = true := by simp; omega
      have e5 : decide (j < q.size) = true := by simp; omega
      have il : (j : Int) < (q.size : Int) := by omega
      have il2 : (j : Int) < (s.size : Int) := by have := HSZ.out; omega
      have kc := HL.out.cells j hlt
      have cA := HA.out.below HL.out.bel
      obtain ⟨cq, ck⟩ := cA
      have hsj : ∀ h : j < s.size, (s[j]'h).toNat = (nums s).getD j 0 := fun h => by rw [nums_at s h]
      obtain ⟨x, hx⟩ : ∃ x, (nums s).getD j 0 = x := ⟨_, rfl⟩
      obtain ⟨c, hc⟩ : ∃ c, q.data.toList.getD j 0 = c := ⟨_, rfl⟩
      rw [hx] at hsj
      rw [hc] at kc
      have HX := Lib.hid (And.intro hx hc)
      clear hx hc
      by_cases hle : x ≤ k
      · have f1 : decide ((x : Int) ≤ (k : Int)) = true := by simp; omega
        have f2 : decide (x ≤ k) = true := by simp; omega
        have HLE := Lib.hid hle
        clear hle
        go_upto_region 5 with fail
        go_quiet (fail)
        obtain ⟨w5, hw5⟩ : ∃ w5, w5 = wr.drewN nq := ⟨_, rfl⟩
        have L5 : Hid (LdS w q k (nums s) b m j w5) := Lib.hid (by rw [hw5]; exact HL.out.below (below_drewN (Below.refl _ wr) nq))
        rw [← hw5]
        clear hw5
        have QS := Lib.hid (step_any (HA.out.below L5.out.bel) hk c (by omega) HS.out)
        obtain ⟨S, hS⟩ : ∃ S, bin (stepL q.data.toList k (nums s) c) = S := ⟨_, rfl⟩
        rw [hS] at QS
        have hSz : S.size ≤ 1000000000 := by rw [← hS, bin_size, (stepL_is _ _ _ _).1, ba_length]; omega
        have HSS := Lib.hid hS
        clear hS
        obtain ⟨N, K, g, hN, hM, hT⟩ := L5.out.map
        have HT := Lib.hid (And.intro hN (And.intro hM hT))
        clear hN hM hT
        go_wp2_with (first
          | (go_at_call 34; (with_reducible refine QS.out.mono ?_); rintro e w6 ⟨rfl, hB6⟩; have H6 := Lib.hid hB6; clear hB6)
          | (refine wpList_put_state _ rfl _ _ _ rfl m N K g S c rfl rfl rfl (HT.out.2.1.same (H6.out.block m HT.out.2.1.lt)) (by have := HT.out.1; omega) hSz (fun w7 hm7 hg7 => ?_); have H7 := Lib.hid (And.intro hm7 hg7); clear hm7 hg7))
        have L7 : Hid (LdS w q k (nums s) b m (j + 1) w7) := Lib.hid (by
          have L6 := L5.out.below H6.out
          refine ⟨fun i hi => ?_, ⟨N + 1, _, _, by have := HT.out.1; omega, H7.out.1, HT.out.2.2.put (by rw [HX.out.1]; exact HLE.out) HX.out.2 (by rw [← HSS.out]; rfl)⟩, L6.bel.grown H7.out.2 L6.bel.size (fun k e => by cases e; exact L6.hm), L6.ne, L6.hm⟩
          have hc := L6.cells i hi
          have hbk : w7.heap[b]? = w6.heap[b]? := H7.out.2.block b (block_lt_of_cell hc) (fun e => L6.ne (by injection e))
          rw [← hc]
          simp [World.cell?, hbk])
        go_roundw
        case rel => exact ⟨j + 1, by omega, by go_num, L7⟩
        case measure => simp [intOf]; omega
      · have f1 : decide ((x : Int) ≤ (k : Int)) = false := by simp; omega
        have f2 : decide (x ≤ k) = false := by simp; omega
        have HLE := Lib.hid hle
        clear hle
        go_upto_region 5 with fail
        go_quiet (fail)
        obtain ⟨w5, hw5⟩ : ∃ w5, w5 = wr.drewN nq := ⟨_, rfl⟩
        have L5 : Hid (LdS w q k (nums s) b m (j + 1) w5) := Lib.hid (by
          rw [hw5]
          have L := HL.out.below (below_drewN (Below.refl _ wr) nq)
          obtain ⟨N, K, g, h1, h2, h3⟩ := L.map
          exact ⟨L.cells, ⟨N, K, g, by omega, h2, h3.skip (by rw [HX.out.1]; exact HLE.out)⟩, L.bel, L.ne, L.hm⟩)
        rw [← hw5]
        clear hw5
        go_wp2
        go_roundw
        case rel => exact ⟨j + 1, by omega, by go_num, L5⟩
        case measure => simp [intOf]; omega
    · have hjn : j = q.size := by omega
      have e4 : decide ((j : Int) < (q.size : Int)) = false := by simp; omega
      have e5 : decide (j < q.size) = false := by simp; omega
      have HJ := Lib.hid hjn
      clear hjn hlt
      go_wp2
      go_ret
      obtain ⟨N, K, g, h1, h2, h3⟩ := HL.out.map
      rw [HJ.out, ← ba_length] at h3
      exact ⟨m, N, K, g, rfl, h2, h3, HL.out.bel, HL.out.hm⟩
end Go.Proofs.Ythgdanbkngnckaa
namespace Go.Proofs.Ythgdanbkngnckaa
open Go.RowKit Go.Shelf Said

/-- The bytes that are told, rising. -/
def tellsT (q : List UInt8) (k : Nat) (r : List Nat) (o : UInt8) : List UInt8 := ((List.range 256).map UInt8.ofNat).filter fun x => decide (x ∈ q ∧ stepL q k r x ≠ stepL q k r o)
theorem tellsT_mem (q : List UInt8) (k : Nat) (r : List Nat) (o x : UInt8) : x ∈ tellsT q k r o ↔ TellsB q k r o x := by
  unfold tellsT TellsB
  rw [List.mem_filter, decide_eq_true_eq]
  refine ⟨fun h => h.2, fun h => ⟨List.mem_map.2 ⟨x.toNat, List.mem_range.2 x.toNat_lt, by simp⟩, h⟩⟩
theorem tellsT_rising (q : List UInt8) (k : Nat) (r : List Nat) (o : UInt8) : (tellsT q k r o).Pairwise (fun a b => a.toNat < b.toNat) := by
  refine List.Pairwise.filter _ ?_
  rw [List.pairwise_map]
  refine (List.pairwise_lt_range (n := 256)).imp_of_mem fun {a b} ha hb h => ?_
  have := List.mem_range.1 ha
  have := List.mem_range.1 hb
  simp
  omega
theorem tellsT_foreign (q : List UInt8) (k : Nat) (r : List Nat) {o o' : UInt8} (h : o ∉ q) (h' : o' ∉ q) : tellsT q k r o = tellsT q k r o' := by
  unfold tellsT
  rw [step_foreign h h']
theorem ownsRow_down {w : World} {base base' : Nat} {e : TypeId} {size n : Nat} {v : Value} {xs : List Value} (h : w.ownsRow base e size v n xs) (hb : base' ≤ base) : w.ownsRow base' e size v n xs := by
  refine ⟨h.1, ?_⟩
  rcases h.2 with h | ⟨g, cap, cur, h1, h2, h3⟩
  · exact .inl h
  · exact .inr ⟨g, cap, cur, h1, Nat.le_trans hb h2, h3⟩

set_option maxRecDepth 100000 in
theorem values_any (m : Nat) (w : World) : Calls Try.prog 64 #[.map (some m)] w fun e w' =>
    e = .returned (.func (.func 77) #[] #[.pointer (some ⟨w.heap.size, 0, none⟩)]) ∧ Below w.heap.size w w' ∧ w.heap.size < w'.heap.size ∧ w'.cell? ⟨w.heap.size, 0, none⟩ = some (.map (some m)) := by
  have H := Lib.hid (And.intro (below_alloc w (.cells #[.map (some m)] 91)) (And.intro (show w.heap.size < (w.alloc (.cells #[.map (some m)] 91)).heap.size by simp) (show (w.alloc (.cells #[.map (some m)] 91)).cell? ⟨w.heap.size, 0, none⟩ = some (.map (some m)) by simp [go_sem])))
  go_enter Try.func64, Try.ntmps64
  go_wp2
  go_ret
  exact ⟨rfl, H.out⟩

/-- What Bytes tells of a state. -/
def Told (w : World) (q : List UInt8) (k : Nat) (r : List Nat) (e : Ending) (w' : World) : Prop :=
  ∃ v o, e = .returned (.tuple #[v, .bool (decide (minT (stepL q k r o) ≤ k))]) ∧ o ∉ q ∧ w'.ownsRow w.heap.size 5 1 v (tellsT q k r o).length ((tellsT q k r o).map enc8) ∧ Below w.heap.size w w'

theorem sorted_vals {W : World} {Bm m N k : Nat} {K : List UInt8 → Prop} {g : List UInt8 → UInt8} {q : List UInt8} {r : List Nat} {o : UInt8} {ko : List UInt8} (hM : SMap W m N (fun y => y ≠ ko ∧ K y) g) (hz : Bm < W.heap.size) (hc : W.cell? ⟨Bm, 0, none⟩ = some (.map (some m))) (hT : LdT q k r q.length K g) (hk : k ≤ 3) (ho : o ∉ q) (hko : ko = keyL q k r o) (hf : (tellsT q k r o).length < 50) :
    Calls Try.prog 63 #[.func (.func 77) #[] #[.pointer (some ⟨Bm, 0, none⟩)]] W fun e w' =>
      ∃ v, e = .returned v ∧ w'.ownsRow W.heap.size 5 1 v (tellsT q k r o).length ((tellsT q k r o).map enc8) ∧ Below W.heap.size W w' := by
  obtain ⟨h1, h2⟩ := hT.tells hk ho hko
  exact sorted_keys Bm _ g (tellsT q k r o) W (fun n hn => vals_stops n hn Bm m N _ g h2 W hz hc hM) (tellsT_rising _ _ _ _) (fun x => (tellsT_mem _ _ _ _ x).trans (h1 x)) h2 hf

theorem row_below {w w' : World} {base : Nat} {e : TypeId} {size n : Nat} {v : Value} {xs : List Value} (h : w.ownsRow base e size v n xs) (hb : Below w.heap.size w w') : w'.ownsRow base e size v n xs := by
  refine h.kept (row := none) ⟨hb.os, hb.tape, hb.output, hb.size, fun k hk _ => hb.block k hk⟩ ?_
  rcases h.2 with ⟨rfl, _⟩ | ⟨g, cap, cur, rfl, _⟩
  · exact .inl rfl
  · exact .inr (by simp [Value.ownBlock])
theorem can_step {q s : ByteArray} {p k : Nat} {w W : World} (hA : AutoAt w p q k) (hb : Below w.heap.size w W) (hk : k ≤ 3) (o : UInt8) (hq : q.size ≤ 255) :
    Calls Try.prog 36 #[.pointer (some ⟨p, 0, none⟩), .string (bin (stepL q.data.toList k (nums s) o))] W fun e w' => e = .returned (.bool (decide (minT (stepL q.data.toList k (nums s) o) ≤ k))) ∧ Below W.heap.size W w' := by
  have hi := stepL_is q.data.toList k (nums s) o
  have hn := nums_of hi hk
  have h := can_lev (s := bin (stepL q.data.toList k (nums s) o)) (hA.below hb) hk (by rw [hn]; exact hi) (by omega)
  rw [hn] at h
  exact h

set_option maxHeartbeats 2000000 in
set_option maxRecDepth 100000 in
theorem apart_any {q s : ByteArray} {p k : Nat} {w : World} (hA : AutoAt w p q k) (hk : k ≤ 3) (hq : q.size ≤ 255) (hs : IsL q.data.toList k (nums s)) (hf : ∀ o, o ∉ q.data.toList → (tellsT q.data.toList k (nums s) o).length < 50) :
    Calls Try.prog 43 #[.pointer (some ⟨p, 0, none⟩), .string s] w (Told w q.data.toList k (nums s)) := by
  have QF := Lib.hid (foreign_any hA hq)
  have HA := Lib.hid hA
  have HS := Lib.hid hs
  have HF := Lib.hid hf
  clear hA hs hf
  go_enter Try.func43, Try.ntmps43
  go_wp2_with (first
    | (go_at_call 61; (with_reducible refine QF.out.mono ?_); rintro e w1 ⟨⟨o, rfl, ho⟩, rfl⟩; have HO := Lib.hid ho; clear ho)
    | (go_at_call 34; (with_reducible refine (step_any HA.out hk o (by omega) HS.out).mono ?_); rintro e w2 ⟨rfl, hB2⟩; have H2 := Lib.hid hB2; clear hB2)
    | (go_at_call 62; (with_reducible refine (leads_any (HA.out.below H2.out) hk hq HS.out).mono ?_); rintro e w3 ⟨m, N, K, g, rfl, hM, hT, hB3, hm⟩; have H3 := Lib.hid (And.intro hM (And.intro hT (And.intro (Below.next H2.out hB3) (Nat.le_trans H2.out.size hm)))); clear hM hT hB3 hm)
    | (at_delete; go_loud (refine wpList_drop_state _ rfl _ _ rfl m N K g (bin (stepL q.data.toList k (nums s) o)) rfl rfl H3.out.1 (by rw [bin_size, (stepL_is _ _ _ _).1, ba_length]; omega) ?_; intro w4 h4 g4; have H4 := Lib.hid (And.intro h4 (H3.out.2.2.1.grown g4.grown H3.out.2.2.1.size (fun k e => by cases e; exact H3.out.2.2.2))); clear h4 g4))
    | (go_at_call 64; (with_reducible refine (values_any m w4).mono ?_); rintro e w5 ⟨rfl, hB5, hz5, hc5⟩; have H5 := Lib.hid (And.intro (H4.out.1.same (hB5.block m H4.out.1.lt)) (And.intro (Below.next H4.out.2 hB5) (And.intro hz5 hc5))); clear hB5 hz5 hc5)
    | (go_at_call 63; (with_reducible refine (sorted_vals H5.out.1 H5.out.2.2.1 H5.out.2.2.2 H3.out.2.1 hk HO.out rfl (HF.out o HO.out)).mono ?_); rintro e w6 ⟨v, rfl, hr6, hB6⟩; have H6 := Lib.hid (And.intro hr6 (Below.next H5.out.2.1 hB6)); clear hr6 hB6)
    | (go_at_call 36; (with_reducible refine (can_step HA.out H6.out.2 hk o hq).mono ?_); rintro e w7 ⟨rfl, hB7⟩; have H7 := Lib.hid (And.intro (row_below H6.out.1 hB7) (Below.next H6.out.2 hB7)); clear hB7))
  go_ret2
  exact ⟨v, o, rfl, HO.out, ownsRow_down H7.out.1 H5.out.2.1.size, H7.out.2⟩

set_option maxRecDepth 100000 in
theorem ask_bytes {q s : ByteArray} {p k : Nat} {w : World} (hA : AutoAt w p q k) (hk : k ≤ 3) (hq : q.size ≤ 255) (hs : IsL q.data.toList k (nums s)) (hf : ∀ o, o ∉ q.data.toList → (tellsT q.data.toList k (nums s) o).length < 50) :
    Calls Try.prog 42 #[.pointer (some ⟨p, 0, none⟩), .string s, .func (.func 43) #[.pointer (some ⟨p, 0, none⟩)] #[]] w (Told w q.data.toList k (nums s)) := by
  have hz : s.size ≤ 1000000000000 := by have := hs.1; rw [nums_length, ba_length] at this; omega
  have hh := has_any hA hk (by omega) hz
  rw [isS_iff.2 hs] at hh
  have HH := Lib.hid hh
  have HC : Hid (∀ W, Below w.heap.size w W → Calls Try.prog 43 #[.pointer (some ⟨p, 0, none⟩), .string s] W fun e w' => Told w q.data.toList k (nums s) e w') := Lib.hid fun W hb => (apart_any (hA.below hb) hk hq hs hf).mono fun e w' h => by
    obtain ⟨v, o, h1, h2, h3, h4⟩ := h
    exact ⟨v, o, h1, h2, ownsRow_down h3 hb.size, Below.next hb h4⟩
  clear hA hh hs hf hz
  go_enter Try.func42, Try.ntmps42
  go_wp2_with (first | (go_at_call 33; (with_reducible refine HH.out.mono ?_); rintro e w' ⟨rfl, HB⟩; replace HB := Lib.hid HB) | (go_at_call 43; (with_reducible refine (HC.out _ HB.out).mono ?_); rintro e w' ⟨v, o, rfl, hx⟩; have HD := Lib.hid hx; clear hx))
  go_ret2
  exact ⟨v, o, rfl, HD.out⟩

set_option maxRecDepth 100000 in
theorem ask_bytes_not {q s : ByteArray} {p k : Nat} {w : World} (hA : AutoAt w p q k) (hk : k ≤ 3) (hq : q.size ≤ 10000) (hz : s.size ≤ 1000000000000) (hs : ¬ IsL q.data.toList k (nums s)) :
    Calls Try.prog 42 #[.pointer (some ⟨p, 0, none⟩), .string s, .func (.func 43) #[.pointer (some ⟨p, 0, none⟩)] #[]] w fun e w' => e = .returned (.tuple #[.slice none 0 0, .bool false]) ∧ Below w.heap.size w w' := by
  have hh := has_any (s := s) hA hk (by omega) hz
  rw [show isS q k s = false by simpa using fun h => hs (isS_iff.1 h)] at hh
  have HH := Lib.hid hh
  clear hA hs hh
  go_enter Try.func42, Try.ntmps42
  go_wp2_with (go_at_call 33; (with_reducible refine HH.out.mono ?_); rintro e w' ⟨rfl, HB⟩; replace HB := Lib.hid HB)
  go_ret2
  exact ⟨rfl, HB.out⟩

set_option maxRecDepth 100000 in
theorem bytes_any {q s : ByteArray} {p k : Nat} {w : World} (hA : AutoAt w p q k) (hk : k ≤ 3) (hq : q.size ≤ 255) (hs : IsL q.data.toList k (nums s)) (hf : ∀ o, o ∉ q.data.toList → (tellsT q.data.toList k (nums s) o).length < 50) :
    Calls Try.prog 24 #[.pointer (some ⟨p, 0, none⟩), .string s] w (Told w q.data.toList k (nums s)) := by
  have HC := Lib.hid (ask_bytes hA hk hq hs hf)
  clear hA hs hf
  go_enter Try.func24, Try.ntmps24
  go_wp2_with (go_at_call 42; (with_reducible refine HC.out.mono ?_); rintro e w' ⟨v, o, rfl, hx⟩; have HD := Lib.hid hx; clear hx)
  go_ret2
  exact ⟨v, o, rfl, HD.out⟩

set_option maxRecDepth 100000 in
theorem bytes_not {q s : ByteArray} {p k : Nat} {w : World} (hA : AutoAt w p q k) (hk : k ≤ 3) (hq : q.size ≤ 10000) (hz : s.size ≤ 1000000000000) (hs : ¬ IsL q.data.toList k (nums s)) :
    Calls Try.prog 24 #[.pointer (some ⟨p, 0, none⟩), .string s] w fun e w' => e = .returned (.tuple #[.slice none 0 0, .bool false]) ∧ Below w.heap.size w w' := by
  have HC := Lib.hid (ask_bytes_not hA hk hq hz hs)
  clear hA hs
  go_enter Try.func24, Try.ntmps24
  go_wp2_with (go_at_call 42; (with_reducible refine HC.out.mono ?_); rintro e w' ⟨rfl, HB⟩; replace HB := Lib.hid HB)
  go_ret2
  exact ⟨rfl, HB.out⟩

/-! ### An automaton that is none -/
set_option maxRecDepth 100000 in
theorem nil_bytes (s : ByteArray) (w : World) : Calls Try.prog 24 #[.pointer none, .string s] w fun e w' => e = .returned (.tuple #[.slice none 0 0, .bool false]) ∧ Below w.heap.size w w' := by
  have HH := Lib.hid (has_nil s w)
  have HC : Hid (Calls Try.prog 42 #[.pointer none, .string s, .func (.func 43) #[.pointer none] #[]] w fun e w' => e = .returned (.tuple #[.slice none 0 0, .bool false]) ∧ Below w.heap.size w w') := Lib.hid (by
    go_enter Try.func42, Try.ntmps42
    go_wp2_with (go_at_call 33; (with_reducible refine HH.out.mono ?_); rintro e w' ⟨rfl, HB⟩; replace HB := Lib.hid HB)
    go_ret2
    exact ⟨rfl, HB.out⟩)
  go_enter Try.func24, Try.ntmps24
  go_wp2_with (go_at_call 42; (with_reducible refine HC.out.mono ?_); rintro e w' ⟨rfl, HB⟩; replace HB := Lib.hid HB)
  go_ret2
  exact ⟨rfl, HB.out⟩
set_option maxRecDepth 100000 in
theorem nil_dist (s : ByteArray) (w : World) : Calls Try.prog 21 #[.pointer none, .string s] w fun e w' => e = .returned (.tuple #[.int .i64 0, .bool false]) ∧ Below w.heap.size w w' := by
  have HH := Lib.hid (has_nil s w)
  have HC : Hid (Calls Try.prog 37 #[.pointer none, .string s, .func (.func 38) #[.pointer none] #[]] w fun e w' => e = .returned (.tuple #[.int .i64 0, .bool false]) ∧ Below w.heap.size w w') := Lib.hid (by
    go_enter Try.func37, Try.ntmps37
    go_wp2_with (go_at_call 33; (with_reducible refine HH.out.mono ?_); rintro e w' ⟨rfl, HB⟩; replace HB := Lib.hid HB)
    go_ret2
    exact ⟨rfl, HB.out⟩)
  go_enter Try.func21, Try.ntmps21
  go_wp2_with (go_at_call 37; (with_reducible refine HC.out.mono ?_); rintro e w' ⟨rfl, HB⟩; replace HB := Lib.hid HB)
  go_ret2
  exact ⟨rfl, HB.out⟩
set_option maxRecDepth 100000 in
theorem nil_can (s : ByteArray) (w : World) : Calls Try.prog 23 #[.pointer none, .string s] w fun e w' => e = .returned (.bool false) ∧ Below w.heap.size w w' := by
  have HH := Lib.hid (has_nil s w)
  have HC : Hid (Calls Try.prog 37 #[.pointer none, .string s, .func (.func 41) #[.pointer none] #[]] w fun e w' => e = .returned (.tuple #[.int .i64 0, .bool false]) ∧ Below w.heap.size w w') := Lib.hid (by
    go_enter Try.func37, Try.ntmps37
    go_wp2_with (go_at_call 33; (with_reducible refine HH.out.mono ?_); rintro e w' ⟨rfl, HB⟩; replace HB := Lib.hid HB)
    go_ret2
    exact ⟨rfl, HB.out⟩)
  go_enter Try.func23, Try.ntmps23
  go_wp2_with (go_at_call 37; (with_reducible refine HC.out.mono ?_); rintro e w' ⟨rfl, HB⟩; replace HB := Lib.hid HB)
  go_ret
  exact ⟨rfl, HB.out⟩
set_option maxRecDepth 100000 in
theorem nil_step (s : ByteArray) (c : UInt8) (w : World) : Calls Try.prog 16 #[.pointer none, .string s, .int .u8 (c.toNat : Int)] w fun e w' => e = .returned (.string ⟨#[]⟩) ∧ Below w.heap.size w w' := by
  have HH := Lib.hid (has_nil s w)
  go_enter Try.func16, Try.ntmps16
  go_wp2_with (go_at_call 33; (with_reducible refine HH.out.mono ?_); rintro e w' ⟨rfl, HB⟩; replace HB := Lib.hid HB)
  go_ret
  exact ⟨rfl, HB.out⟩
set_option maxRecDepth 100000 in
theorem nil_read (s : ByteArray) (v : Value) (w : World) : Calls Try.prog 18 #[.pointer none, .string s, v] w fun e w' => e = .returned (.string ⟨#[]⟩) ∧ Below w.heap.size w w' := by
  have HH := Lib.hid (has_nil s w)
  go_enter Try.func18, Try.ntmps18
  go_wp2_with (go_at_call 33; (with_reducible refine HH.out.mono ?_); rintro e w' ⟨rfl, HB⟩; replace HB := Lib.hid HB)
  go_ret
  exact ⟨rfl, HB.out⟩
set_option maxRecDepth 100000 in
theorem nil_start (w : World) : Calls Try.prog 13 #[.pointer none] w fun e w' => e = .returned (.string ⟨#[]⟩) ∧ Below w.heap.size w w' := by
  have HB := Lib.hid (Below.refl w.heap.size w)
  go_enter Try.func13, Try.ntmps13
  go_wp2
  go_ret
  exact ⟨rfl, HB.out⟩
end Go.Proofs.Ythgdanbkngnckaa
namespace Go.Proofs.Ythgdanbkngnckaa
open Go.RowKit Go.Shelf Said

theorem u8s_enc (L : List UInt8) : L.map enc8 = u8s (L.map UInt8.toNat) := by
  unfold u8s
  rw [List.map_map]
  rfl
theorem bin_map (L : List UInt8) : bin (L.map UInt8.toNat) = ⟨L.toArray⟩ := by
  apply ba_ext
  show (L.map UInt8.toNat).map UInt8.ofNat = L
  rw [List.map_map]
  conv => rhs; rw [← List.map_id L]
  apply List.map_congr_left
  intro x _
  simp
/-- A row of bytes as a string, whatever its length. -/
theorem row_str {w : World} {base : Nat} {v : Value} {L : List UInt8} (h : w.ownsRow base 5 1 v L.length (L.map enc8)) (T : TypeId) (hT : Try.prog.underlying T = some .string) : (convert 38 T v).run Try.prog w = .ok (.string ⟨L.toArray⟩) w := by
  by_cases h0 : L.length = 0
  · have e := List.eq_nil_of_length_eq_zero h0
    subst e
    rcases h.2 with ⟨rfl, _⟩ | ⟨g, cap, cur, rfl, _⟩
    · exact run_convert_bytes_nil (P := Try.prog) w 38 5 Try.underlying38 Try.underlying5 0 0 T hT
    · exact run_convert_bytes_arg (P := Try.prog) w 38 5 Try.underlying38 Try.underlying5 g 0 0 cap [] rfl (fun i hi => by omega) T hT
  · rw [u8s_enc] at h
    have hb := byts_of_owns (l := L.map UInt8.toNat) (by rw [List.length_map]; exact h)
    have := byts_str hb (by rw [List.length_map]; omega) (fun i => by
      by_cases hi : i < L.length
      · simp only [List.getD, List.getElem?_map, List.getElem?_eq_getElem hi, Option.map_some, Option.getD_some]
        exact UInt8.toNat_lt _
      · simp [List.getD, hi]) T hT
    rw [bin_map] at this
    exact this

theorem told_lit {w w' : World} {q : List UInt8} {k : Nat} {r : List Nat} {e : Ending} {L : List UInt8} {b : Bool} {z : UInt8} (h : Told w q k r e w') (h0 : z ∉ q) (hL : tellsT q k r z = L) (hb : decide (minT (stepL q k r z) ≤ k) = b) : ∃ v, e = .returned (.tuple #[v, .bool b]) ∧ w'.ownsRow w.heap.size 5 1 v L.length (L.map enc8) ∧ Below w.heap.size w w' := by
  obtain ⟨v, o, h1, h2, h3, h4⟩ := h
  rw [tellsT_foreign q k r h2 h0, hL] at h3
  rw [step_foreign h2 h0, hb] at h1
  exact ⟨v, h1, h3, h4⟩

theorem strs_litL (l : List ByteArray) (W : World) : Strs (W.alloc (.cells (strs l).toArray 9)) (.slice (some ⟨W.heap.size, 0, none⟩) l.length l.length) l := by
  refine ⟨_, _, rfl, fun i hi => ⟨_, _, rfl, ?_⟩⟩
  rw [World.cell?_alloc_at (hn := rfl)]
  simp [strs, hi, List.getD]
theorem below_strs {w W : World} (l : List ByteArray) (h : Below w.heap.size w W) : Below w.heap.size w (W.alloc (.cells (strs l).toArray 9)) := h.alloc h.size _

/-- Read at texts that have just been written out. -/
theorem read_lit {w W : World} {p k : Nat} {q s S : ByteArray} (hA : AutoAt w p q k) (hb : Below w.heap.size w W) (hk : k ≤ 3) (hq : q.size ≤ 10000) (l : List ByteArray) (hs : IsL q.data.toList k (nums s)) (hz : l.length ≤ 1000) (hl : ∀ t ∈ l, t.size ≤ 1000000) (hS : bin (readL q.data.toList k (nums s) (allB l)) = S) :
    Calls Try.prog 18 #[.pointer (some ⟨p, 0, none⟩), .string s, .slice (some ⟨W.heap.size, 0, none⟩) l.length l.length] (W.alloc (.cells (strs l).toArray 9)) fun e w' => e = .returned (.string S) ∧ Below W.heap.size W w' := by
  have hb1 := below_strs l hb
  refine (read_any (hA.below hb1) hk hq hs (strs_litL l W) hz hl).mono ?_
  rintro e w' ⟨rfl, hB⟩
  exact ⟨by rw [hS], Below.next (below_strs l (Below.refl _ W)) hB⟩
theorem dist_lit {w W : World} {p k n : Nat} {q s : ByteArray} {b : Bool} (hA : AutoAt w p q k) (hb : Below w.heap.size w W) (hk : k ≤ 3) (hq : q.size ≤ 10000) (hz : s.size ≤ 1000000000000) (hv : askV q k s (wholeL (nums s)) = .tuple #[.int .i64 (n : Int), .bool b]) :
    Calls Try.prog 21 #[.pointer (some ⟨p, 0, none⟩), .string s] W fun e w' => e = .returned (.tuple #[.int .i64 (n : Int), .bool b]) ∧ Below W.heap.size W w' :=
  (dist_lev (hA.below hb) hk hq hz).mono fun e w' h => ⟨h.1.trans (by rw [hv]), h.2⟩
theorem can_lit {w W : World} {p k : Nat} {q s : ByteArray} {b : Bool} (hA : AutoAt w p q k) (hb : Below w.heap.size w W) (hk : k ≤ 3) (hq : q.size ≤ 10000) (hz : s.size ≤ 1000000000000) (hv : canB q k s = b) :
    Calls Try.prog 23 #[.pointer (some ⟨p, 0, none⟩), .string s] W fun e w' => e = .returned (.bool b) ∧ Below W.heap.size W w' :=
  (Can_lev (hA.below hb) hk hq hz).mono fun e w' h => ⟨h.1.trans (by rw [hv]), h.2⟩
theorem step_lit {w W : World} {p k : Nat} {q s S : ByteArray} (c : UInt8) (hA : AutoAt w p q k) (hb : Below w.heap.size w W) (hk : k ≤ 3) (hq : q.size ≤ 10000) (hz : s.size ≤ 1000000000000) (hv : StepS q k s c = S) :
    Calls Try.prog 16 #[.pointer (some ⟨p, 0, none⟩), .string s, .int .u8 (c.toNat : Int)] W fun e w' => e = .returned (.string S) ∧ Below W.heap.size W w' :=
  (Step_lev (hA.below hb) hk c hq hz).mono fun e w' h => ⟨h.1.trans (by rw [hv]), h.2⟩
theorem start_lit {w W : World} {p k : Nat} {q S : ByteArray} (hA : AutoAt w p q k) (hb : Below w.heap.size w W) (hk : k ≤ 3) (hq : q.size ≤ 255) (hv : bin (startL q.data.toList k) = S) :
    Calls Try.prog 13 #[.pointer (some ⟨p, 0, none⟩)] W fun e w' => e = .returned (.string S) ∧ Below W.heap.size W w' :=
  (start_any (hA.below hb) hk hq).mono fun e w' h => ⟨h.1.trans (by rw [hv]), h.2⟩
theorem bytes_lit {w W : World} {p k : Nat} {q s : ByteArray} {L : List UInt8} {b : Bool} {z : UInt8} (hA : AutoAt w p q k) (hb : Below w.heap.size w W) (hk : k ≤ 3) (hq : q.size ≤ 255) (hs : IsL q.data.toList k (nums s)) (h0 : z ∉ q.data.toList) (hL : tellsT q.data.toList k (nums s) z = L) (hc : decide (minT (stepL q.data.toList k (nums s) z) ≤ k) = b) (hf : L.length < 50) :
    Calls Try.prog 24 #[.pointer (some ⟨p, 0, none⟩), .string s] W fun e w' => ∃ v, e = .returned (.tuple #[v, .bool b]) ∧ w'.ownsRow W.heap.size 5 1 v L.length (L.map enc8) ∧ Below W.heap.size W w' :=
  (bytes_any (hA.below hb) hk hq hs fun o ho => by rw [tellsT_foreign _ _ _ ho h0, hL]; exact hf).mono fun e w' h => by
    obtain ⟨v, h1, h2, h3⟩ := told_lit h h0 hL hc
    exact ⟨v, h1, h2, h3⟩
theorem lit_is {q : List UInt8} {k : Nat} {r : List Nat} (h : r.length = q.length + 1 ∧ maxT r ≤ k + 1) : IsL q k r := ⟨h.1, (maxT_le r (k + 1)).1 h.2⟩

/-! ### The examples' states -/
theorem ex_start : bin (startL [97, 98] 1) = ⟨#[0, 1, 2]⟩ := by decide +kernel
theorem ex_is : IsL [97, 98] 1 (nums ⟨#[0, 1, 2]⟩) := lit_is (by decide +kernel)
theorem ex_a : StepS ⟨#[97, 98]⟩ 1 ⟨#[0, 1, 2]⟩ 97 = ⟨#[1, 0, 1]⟩ := by decide +kernel
theorem ex_b : StepS ⟨#[97, 98]⟩ 1 ⟨#[0, 1, 2]⟩ 98 = ⟨#[1, 1, 1]⟩ := by decide +kernel
theorem ex_x : StepS ⟨#[97, 98]⟩ 1 ⟨#[0, 1, 2]⟩ 120 = ⟨#[1, 1, 2]⟩ := by decide +kernel
theorem ex_ab : bin (readL [97, 98] 1 (nums ⟨#[0, 1, 2]⟩) (allB [⟨#[97]⟩, ⟨#[98]⟩])) = ⟨#[2, 1, 0]⟩ := by decide +kernel
theorem ex_rx : bin (readL [97, 98] 1 (nums ⟨#[0, 1, 2]⟩) (allB [⟨#[120]⟩])) = ⟨#[1, 1, 2]⟩ := by decide +kernel
theorem ex_xy : bin (readL [97, 98] 1 (nums ⟨#[0, 1, 2]⟩) (allB [⟨#[120]⟩, ⟨#[121]⟩])) = ⟨#[2, 2, 2]⟩ := by decide +kernel
theorem ex_tells : tellsT [97, 98] 1 (nums ⟨#[0, 1, 2]⟩) 0 = [97, 98] := by decide +kernel
theorem ex_more : decide (minT (stepL [97, 98] 1 (nums ⟨#[0, 1, 2]⟩) 0) ≤ 1) = true := by decide +kernel
theorem ex_d0 : askV ⟨#[97, 98]⟩ 1 ⟨#[2, 1, 0]⟩ (wholeL (nums ⟨#[2, 1, 0]⟩)) = .tuple #[.int .i64 ((0 : Nat) : Int), .bool true] := by kernel_rfl
theorem ex_d1 : askV ⟨#[97, 98]⟩ 1 ⟨#[1, 1, 2]⟩ (wholeL (nums ⟨#[1, 1, 2]⟩)) = .tuple #[.int .i64 ((0 : Nat) : Int), .bool false] := by kernel_rfl
theorem ex_d2 : askV ⟨#[97, 98]⟩ 1 ⟨#[2, 2, 2]⟩ (wholeL (nums ⟨#[2, 2, 2]⟩)) = .tuple #[.int .i64 ((0 : Nat) : Int), .bool false] := by kernel_rfl
theorem ex_c1 : canB ⟨#[97, 98]⟩ 1 ⟨#[1, 1, 2]⟩ = true := by decide +kernel
theorem ex_c2 : canB ⟨#[97, 98]⟩ 1 ⟨#[2, 2, 2]⟩ = false := by decide +kernel

set_option maxHeartbeats 4000000 in
set_option maxRecDepth 100000 in
theorem works_any (w : World) : Calls Try.prog 20 #[] w fun e w' => e = .returned (.bool true) ∧ Below w.heap.size w w' := by
  have QN : Hid (Calls Try.prog 10 #[.string ⟨#[97, 98]⟩, .int .i64 1] w fun e w' => e = .returned (.pointer (some ⟨w.heap.size, 0, none⟩)) ∧ AutoAt w' w.heap.size ⟨#[97, 98]⟩ 1 ∧ Below w.heap.size w w' ∧ w.heap.size < w'.heap.size) := Lib.hid (new_any ⟨#[97, 98]⟩ 1 w (by decide) (by decide))
  go_enter Try.func20, Try.ntmps20
  go_upto_region 2 with (go_at_call 10; (with_reducible refine QN.out.mono ?_); rintro e w1 ⟨rfl, hA1, hB1, hz1⟩; have HA := Lib.hid hA1; have HW := Lib.hid hB1; clear hA1 hB1 hz1)
  have HX : Hid (Below w1.heap.size w1 w1) := Lib.hid (Below.refl _ _)
  have QS : Hid (∀ W, Below w1.heap.size w1 W → Calls Try.prog 13 #[.pointer (some ⟨w.heap.size, 0, none⟩)] W fun e w' => e = .returned (.string ⟨#[0, 1, 2]⟩) ∧ Below W.heap.size W w') := Lib.hid fun W hb => start_lit HA.out hb (by decide) (by decide) ex_start
  have R1 : Hid (∀ W, Below w1.heap.size w1 W → Calls Try.prog 18 #[.pointer (some ⟨w.heap.size, 0, none⟩), .string ⟨#[0, 1, 2]⟩, .slice (some ⟨W.heap.size, 0, none⟩) 2 2] (W.alloc (.cells #[.string ⟨#[97]⟩, .string ⟨#[98]⟩] 9)) fun e w' => e = .returned (.string ⟨#[2, 1, 0]⟩) ∧ Below W.heap.size W w') := Lib.hid fun W hb => read_lit HA.out hb (by decide) (by decide) [⟨#[97]⟩, ⟨#[98]⟩] ex_is (by decide) (by decide) ex_ab
  have R2 : Hid (∀ W, Below w1.heap.size w1 W → Calls Try.prog 18 #[.pointer (some ⟨w.heap.size, 0, none⟩), .string ⟨#[0, 1, 2]⟩, .slice (some ⟨W.heap.size, 0, none⟩) 1 1] (W.alloc (.cells #[.string ⟨#[120]⟩] 9)) fun e w' => e = .returned (.string ⟨#[1, 1, 2]⟩) ∧ Below W.heap.size W w') := Lib.hid fun W hb => read_lit HA.out hb (by decide) (by decide) [⟨#[120]⟩] ex_is (by decide) (by decide) ex_rx
  have R3 : Hid (∀ W, Below w1.heap.size w1 W → Calls Try.prog 18 #[.pointer (some ⟨w.heap.size, 0, none⟩), .string ⟨#[0, 1, 2]⟩, .slice (some ⟨W.heap.size, 0, none⟩) 2 2] (W.alloc (.cells #[.string ⟨#[120]⟩, .string ⟨#[121]⟩] 9)) fun e w' => e = .returned (.string ⟨#[2, 2, 2]⟩) ∧ Below W.heap.size W w') := Lib.hid fun W hb => read_lit HA.out hb (by decide) (by decide) [⟨#[120]⟩, ⟨#[121]⟩] ex_is (by decide) (by decide) ex_xy
  have C1 : Hid (∀ W, Below w1.heap.size w1 W → Calls Try.prog 23 #[.pointer (some ⟨w.heap.size, 0, none⟩), .string ⟨#[1, 1, 2]⟩] W fun e w' => e = .returned (.bool true) ∧ Below W.heap.size W w') := Lib.hid fun W hb => can_lit HA.out hb (by decide) (by decide) (by decide) ex_c1
  have C2 : Hid (∀ W, Below w1.heap.size w1 W → Calls Try.prog 23 #[.pointer (some ⟨w.heap.size, 0, none⟩), .string ⟨#[2, 2, 2]⟩] W fun e w' => e = .returned (.bool false) ∧ Below W.heap.size W w') := Lib.hid fun W hb => can_lit HA.out hb (by decide) (by decide) (by decide) ex_c2
  have D0 : Hid (∀ W, Below w1.heap.size w1 W → Calls Try.prog 21 #[.pointer (some ⟨w.heap.size, 0, none⟩), .string ⟨#[2, 1, 0]⟩] W fun e w' => e = .returned (.tuple #[.int .i64 0, .bool true]) ∧ Below W.heap.size W w') := Lib.hid fun W hb => dist_lit (n := 0) HA.out hb (by decide) (by decide) (by decide) ex_d0
  have D1 : Hid (∀ W, Below w1.heap.size w1 W → Calls Try.prog 21 #[.pointer (some ⟨w.heap.size, 0, none⟩), .string ⟨#[1, 1, 2]⟩] W fun e w' => e = .returned (.tuple #[.int .i64 0, .bool false]) ∧ Below W.heap.size W w') := Lib.hid fun W hb => dist_lit (n := 0) HA.out hb (by decide) (by decide) (by decide) ex_d1
  have D2 : Hid (∀ W, Below w1.heap.size w1 W → Calls Try.prog 21 #[.pointer (some ⟨w.heap.size, 0, none⟩), .string ⟨#[2, 2, 2]⟩] W fun e w' => e = .returned (.tuple #[.int .i64 0, .bool false]) ∧ Below W.heap.size W w') := Lib.hid fun W hb => dist_lit (n := 0) HA.out hb (by decide) (by decide) (by decide) ex_d2
  have S1 : Hid (∀ W, Below w1.heap.size w1 W → Calls Try.prog 16 #[.pointer (some ⟨w.heap.size, 0, none⟩), .string ⟨#[0, 1, 2]⟩, .int .u8 97] W fun e w' => e = .returned (.string ⟨#[1, 0, 1]⟩) ∧ Below W.heap.size W w') := Lib.hid fun W hb => step_lit 97 HA.out hb (by decide) (by decide) (by decide) ex_a
  have S2 : Hid (∀ W, Below w1.heap.size w1 W → Calls Try.prog 16 #[.pointer (some ⟨w.heap.size, 0, none⟩), .string ⟨#[0, 1, 2]⟩, .int .u8 98] W fun e w' => e = .returned (.string ⟨#[1, 1, 1]⟩) ∧ Below W.heap.size W w') := Lib.hid fun W hb => step_lit 98 HA.out hb (by decide) (by decide) (by decide) ex_b
  have S3 : Hid (∀ W, Below w1.heap.size w1 W → Calls Try.prog 16 #[.pointer (some ⟨w.heap.size, 0, none⟩), .string ⟨#[0, 1, 2]⟩, .int .u8 120] W fun e w' => e = .returned (.string ⟨#[1, 1, 2]⟩) ∧ Below W.heap.size W w') := Lib.hid fun W hb => step_lit 120 HA.out hb (by decide) (by decide) (by decide) ex_x
  have QB : Hid (∀ W, Below w1.heap.size w1 W → Calls Try.prog 24 #[.pointer (some ⟨w.heap.size, 0, none⟩), .string ⟨#[0, 1, 2]⟩] W fun e w' => ∃ v, e = .returned (.tuple #[v, .bool true]) ∧ w'.ownsRow W.heap.size 5 1 v [(97 : UInt8), 98].length ([(97 : UInt8), 98].map enc8) ∧ Below W.heap.size W w') := Lib.hid fun W hb => bytes_lit (z := 0) HA.out hb (by decide) (by decide) ex_is (by decide) ex_tells ex_more (by decide)
  go_wp2_with (first
    | (go_at_call 13; (with_reducible refine (QS.out _ HX.out).mono ?_); rintro e w' ⟨rfl, hB⟩; replace HX := Lib.hid (Below.next HX.out hB); clear hB)
    | (go_at_call 18; (with_reducible refine (R1.out _ HX.out).mono ?_); rintro e w' ⟨rfl, hB⟩; replace HX := Lib.hid (Below.next HX.out hB); clear hB)
    | (go_at_call 18; (with_reducible refine (R2.out _ HX.out).mono ?_); rintro e w' ⟨rfl, hB⟩; replace HX := Lib.hid (Below.next HX.out hB); clear hB)
    | (go_at_call 18; (with_reducible refine (R3.out _ HX.out).mono ?_); rintro e w' ⟨rfl, hB⟩; replace HX := Lib.hid (Below.next HX.out hB); clear hB)
    | (go_at_call 21; (with_reducible refine (D0.out _ HX.out).mono ?_); rintro e w' ⟨rfl, hB⟩; replace HX := Lib.hid (Below.next HX.out hB); clear hB)
    | (go_at_call 21; (with_reducible refine (D1.out _ HX.out).mono ?_); rintro e w' ⟨rfl, hB⟩; replace HX := Lib.hid (Below.next HX.out hB); clear hB)
    | (go_at_call 21; (with_reducible refine (D2.out _ HX.out).mono ?_); rintro e w' ⟨rfl, hB⟩; replace HX := Lib.hid (Below.next HX.out hB); clear hB)
    | (go_at_call 24; (with_reducible refine (QB.out _ HX.out).mono ?_); rintro e wB ⟨v, rfl, hr, hB⟩; replace HX := Lib.hid (Below.next HX.out hB); have HR : Hid (∀ W, Below wB.heap.size wB W → (convert 38 9 v).run Try.prog W = .ok (.string ⟨#[97, 98]⟩) W) := Lib.hid (fun W hb => row_str (row_below hr hb) _ Try.underlying9); have HY := Lib.hid (Below.refl wB.heap.size wB); clear hr hB)
    | (go_at_call 16; (with_reducible refine (S1.out _ HX.out).mono ?_); rintro e w' ⟨rfl, hB⟩; replace HX := Lib.hid (Below.next HX.out hB); replace HY := Lib.hid (Below.next HY.out hB); clear hB; have hcv := HR.out _ HY.out)
    | (go_at_call 16; (with_reducible refine (S2.out _ HX.out).mono ?_); rintro e w' ⟨rfl, hB⟩; replace HX := Lib.hid (Below.next HX.out hB); replace HY := Lib.hid (Below.next HY.out hB); clear hB; have hcv := HR.out _ HY.out)
    | (go_at_call 16; (with_reducible refine (S3.out _ HX.out).mono ?_); rintro e w' ⟨rfl, hB⟩; replace HX := Lib.hid (Below.next HX.out hB); replace HY := Lib.hid (Below.next HY.out hB); clear hB; have hcv := HR.out _ HY.out)
    | (go_at_call 23; (with_reducible refine (C1.out _ HX.out).mono ?_); rintro e w' ⟨rfl, hB⟩; replace HX := Lib.hid (Below.next HX.out hB); replace HY := Lib.hid (Below.next HY.out hB); clear hB; have hcv := HR.out _ HY.out)
    | (go_at_call 23; (with_reducible refine (C2.out _ HX.out).mono ?_); rintro e w' ⟨rfl, hB⟩; replace HX := Lib.hid (Below.next HX.out hB); replace HY := Lib.hid (Below.next HY.out hB); clear hB; have hcv := HR.out _ HY.out))
  go_ret
  exact ⟨rfl, Below.next HW.out HX.out⟩
end Go.Proofs.Ythgdanbkngnckaa
namespace Go.Proofs.Ythgdanbkngnckaa
open Go.RowKit Go.Shelf Said

def fewT (s : ByteArray) (m : Nat) : ByteArray := s.extract 0 (min s.size m)
theorem fewT_size (s : ByteArray) (m : Nat) : (fewT s m).size = min s.size m := by
  rw [← ba_length, fewT, ba_extract, List.drop_zero, Nat.sub_zero, List.length_take, ba_length]
  omega

set_option maxRecDepth 100000 in
theorem few_any (s : ByteArray) (m : Nat) (hm : m ≤ 1000) (w : World) : Calls Try.prog 9 #[.string s, .int .i64 (m : Int)] w fun e w' => e = .returned (.string (fewT s m)) ∧ w = w' := by
  unfold fewT
  have e : (min (s.size : Int) (m : Int)).toNat = min s.size m := by omega
  have he := Lib.hid e
  clear e
  go_enter Try.func9, Try.ntmps9
  go_wp2
  go_ret
  refine ⟨?_, rfl⟩
  rw [← he.out]
  rfl

set_option maxRecDepth 100000 in
theorem bound_any (K : Int) (hK : -128 ≤ K ∧ K ≤ 127) : ∃ k : Nat, k ≤ 3 ∧ ∀ (Q W : ByteArray) (w : World), Calls Try.prog 12 #[.agg #[.string Q, .string W, .int .i8 K]] w fun e w' => e = .returned (.int .i64 (k : Int)) ∧ Below w.heap.size w w' := by
  obtain ⟨t, ht⟩ : ∃ t, K.tmod 4 = t := ⟨_, rfl⟩
  have ht1 : -3 ≤ t ∧ t ≤ 3 := by
    have key : ∀ n : Fin 256, -3 ≤ ((n.val : Int) - 128).tmod 4 ∧ ((n.val : Int) - 128).tmod 4 ≤ 3 := by decide +kernel
    have h := key ⟨(K + 128).toNat, by omega⟩
    rw [show (((⟨(K + 128).toNat, by omega⟩ : Fin 256).val : Int) - 128) = K by show (((K + 128).toNat : Nat) : Int) - 128 = K; omega, ht] at h
    exact h
  obtain ⟨u, hu⟩ : ∃ u : Nat, (t + 4).tmod 4 = (u : Int) ∧ u ≤ 3 := by
    rcases (show t = -3 ∨ t = -2 ∨ t = -1 ∨ t = 0 ∨ t = 1 ∨ t = 2 ∨ t = 3 by omega) with rfl | rfl | rfl | rfl | rfl | rfl | rfl
    · exact ⟨1, rfl, by omega⟩
    · exact ⟨2, rfl, by omega⟩
    · exact ⟨3, rfl, by omega⟩
    · exact ⟨0, rfl, by omega⟩
    · exact ⟨1, rfl, by omega⟩
    · exact ⟨2, rfl, by omega⟩
    · exact ⟨3, rfl, by omega⟩
  refine ⟨u, hu.2, fun Q W w => ?_⟩
  have hu := hu.1
  have HB := Lib.hid (below_alloc w (.cells #[.string Q, .string W, .int .i8 K] 24))
  go_enter Try.func12, Try.ntmps12
  go_wp2
  go_ret
  exact ⟨rfl, HB.out⟩

/-- What stands of a text, asked as Ask does. -/
def askA (Q W : ByteArray) (K : Int) : Value := .agg #[.string Q, .string W, .int .i8 K]

/-- Dist of a state. -/
theorem dist_st {w W : World} {p k : Nat} {q : ByteArray} {r : List Nat} (hA : AutoAt w p q k) (hb : Below w.heap.size w W) (hk : k ≤ 3) (hq : q.size ≤ 300) (hr : IsL q.data.toList k r) :
    Calls Try.prog 21 #[.pointer (some ⟨p, 0, none⟩), .string (bin r)] W fun e w' => e = .returned (.tuple #[.int .i64 ((if wholeL r ≤ k then wholeL r else 0 : Nat) : Int), .bool (decide (wholeL r ≤ k))]) ∧ Below W.heap.size W w' := by
  have hn := nums_of hr hk
  have hz : (bin r).size ≤ 1000000000000 := by rw [bin_size, hr.1, ba_length]; omega
  have h := dist_lev (s := bin r) (hA.below hb) hk (by omega) hz
  rw [askV_yes (by rw [hn]; exact hr), hn] at h
  exact h
theorem can_st {w W : World} {p k : Nat} {q : ByteArray} {r : List Nat} (hA : AutoAt w p q k) (hb : Below w.heap.size w W) (hk : k ≤ 3) (hq : q.size ≤ 300) (hr : IsL q.data.toList k r) :
    Calls Try.prog 23 #[.pointer (some ⟨p, 0, none⟩), .string (bin r)] W fun e w' => e = .returned (.bool (decide (minT r ≤ k))) ∧ Below W.heap.size W w' := by
  have hn := nums_of hr hk
  have hz : (bin r).size ≤ 1000000000000 := by rw [bin_size, hr.1, ba_length]; omega
  have h := Can_lev (s := bin r) (hA.below hb) hk (by omega) hz
  rw [canB, isS_iff.2 (by rw [hn]; exact hr), hn] at h
  exact h
theorem step_st {w W : World} {p k : Nat} {q : ByteArray} {r : List Nat} (c : UInt8) (hA : AutoAt w p q k) (hb : Below w.heap.size w W) (hk : k ≤ 3) (hq : q.size ≤ 300) (hr : IsL q.data.toList k r) :
    Calls Try.prog 16 #[.pointer (some ⟨p, 0, none⟩), .string (bin r), .int .u8 (c.toNat : Int)] W fun e w' => e = .returned (.string (bin (stepL q.data.toList k r c))) ∧ Below W.heap.size W w' := by
  have hn := nums_of hr hk
  have hz : (bin r).size ≤ 1000000000000 := by rw [bin_size, hr.1, ba_length]; omega
  have h := Step_lev (s := bin r) (hA.below hb) hk c (by omega) hz
  rw [StepS, isS_iff.2 (by rw [hn]; exact hr), hn] at h
  exact h
theorem start_st {w W : World} {p k : Nat} {q : ByteArray} (hA : AutoAt w p q k) (hb : Below w.heap.size w W) (hk : k ≤ 3) (hq : q.size ≤ 255) :
    Calls Try.prog 13 #[.pointer (some ⟨p, 0, none⟩)] W fun e w' => e = .returned (.string (bin (startL q.data.toList k))) ∧ Below W.heap.size W w' := start_any (hA.below hb) hk hq
/-- Read of one text that has just been written out. -/
theorem read_one {w W : World} {p k : Nat} {q t : ByteArray} {r : List Nat} (hA : AutoAt w p q k) (hb : Below w.heap.size w W) (hk : k ≤ 3) (hq : q.size ≤ 300) (hr : IsL q.data.toList k r) (ht : t.size ≤ 1000000) :
    Calls Try.prog 18 #[.pointer (some ⟨p, 0, none⟩), .string (bin r), .slice (some ⟨W.heap.size, 0, none⟩) 1 1] (W.alloc (.cells #[.string t] 9)) fun e w' => e = .returned (.string (bin (readL q.data.toList k r t.data.toList))) ∧ Below W.heap.size W w' := by
  have hn := nums_of hr hk
  have h := read_lit (s := bin r) hA hb hk (by omega) [t] (by rw [hn]; exact hr) (by simp) (by simpa using ht) rfl
  rw [hn, show allB [t] = t.data.toList by simp [allB]] at h
  exact h
theorem read_two {w W : World} {p k : Nat} {q t u : ByteArray} {r : List Nat} (hA : AutoAt w p q k) (hb : Below w.heap.size w W) (hk : k ≤ 3) (hq : q.size ≤ 300) (hr : IsL q.data.toList k r) (ht : t.size ≤ 1000000) (hu : u.size ≤ 1000000) :
    Calls Try.prog 18 #[.pointer (some ⟨p, 0, none⟩), .string (bin r), .slice (some ⟨W.heap.size, 0, none⟩) 2 2] (W.alloc (.cells #[.string t, .string u] 9)) fun e w' => e = .returned (.string (bin (readL q.data.toList k r (t.data.toList ++ u.data.toList)))) ∧ Below W.heap.size W w' := by
  have hn := nums_of hr hk
  have h := read_lit (s := bin r) hA hb hk (by omega) [t, u] (by rw [hn]; exact hr) (by simp) (by simp; exact ⟨ht, hu⟩) rfl
  rw [hn, show allB [t, u] = t.data.toList ++ u.data.toList by simp [allB]] at h
  exact h
end Go.Proofs.Ythgdanbkngnckaa
namespace Go.Proofs.Ythgdanbkngnckaa
open Go.RowKit Go.Shelf Said

set_option maxHeartbeats 4000000 in
set_option maxRecDepth 100000 in
theorem levDead_walk (Q Wt : ByteArray) (K : Int) (more : ByteArray) (w : World) (hK : -128 ≤ K ∧ K ≤ 127) :
    Calls Try.prog 5 #[askA Q Wt K, .string more] w fun e w' => e = .returned (.bool true) ∧ Below w.heap.size w w' := by
  obtain ⟨k, hk, hbd⟩ := bound_any K hK
  have QBd := Lib.hid hbd
  have QF : Hid (∀ (s : ByteArray) W, Calls Try.prog 9 #[.string s, .int .i64 40] W fun e w' => e = .returned (.string (fewT s 40)) ∧ Below W.heap.size W w') := Lib.hid fun s W => (few_any s 40 (by omega) W).mono fun e w' h => ⟨h.1, h.2 ▸ Below.refl _ _⟩
  have HK := Lib.hid hk
  clear hbd hK hk
  unfold askA
  have HB0 := Lib.hid (below_alloc w (.cells #[.string Q, .string Wt, .int .i8 K] 24))
  have HC0 : Hid ((w.alloc (.cells #[.string Q, .string Wt, .int .i8 K] 24)).cell? ⟨w.heap.size, 0, none⟩ = some (.string Q) ∧ (w.alloc (.cells #[.string Q, .string Wt, .int .i8 K] 24)).cell? ⟨w.heap.size, 1, none⟩ = some (.string Wt) ∧ (w.alloc (.cells #[.string Q, .string Wt, .int .i8 K] 24)).cell? ⟨w.heap.size, 2, none⟩ = some (.int .i8 K)) := Lib.hid ⟨by simp [go_sem], by simp [go_sem], by simp [go_sem]⟩
  go_enter Try.func5, Try.ntmps5
  obtain ⟨W0, hW0⟩ : ∃ W0, W0 = w.alloc (.cells #[.string Q, .string Wt, .int .i8 K] 24) := ⟨_, rfl⟩
  rw [← hW0] at HB0 HC0
  have QW := Lib.hid (works_any W0)
  go_upto_region 3 with (rw [← hW0]; go_at_call 20; (with_reducible refine QW.out.mono ?_); rintro e w1 ⟨rfl, hB⟩; have H1 := Lib.hid hB; clear hB)
  obtain ⟨q, hq⟩ : ∃ q, fewT Q 40 = q := ⟨_, rfl⟩
  obtain ⟨t, ht⟩ : ∃ t, fewT Wt 40 = t := ⟨_, rfl⟩
  have HQ : Hid (q.size ≤ 40) := Lib.hid (by rw [← hq, fewT_size]; omega)
  have HT : Hid (t.size ≤ 40) := Lib.hid (by rw [← ht, fewT_size]; omega)
  have HX : Hid (∀ W, Below w1.heap.size w1 W → W.cell? ⟨w.heap.size, 0, none⟩ = some (.string Q) ∧ W.cell? ⟨w.heap.size, 1, none⟩ = some (.string Wt) ∧ W.cell? ⟨w.heap.size, 2, none⟩ = some (.int .i8 K)) := Lib.hid fun W hb => by
    have hB := Below.next H1.out hb
    exact ⟨by rw [hB.cell (block_lt_of_cell HC0.out.1)]; exact HC0.out.1, by rw [hB.cell (block_lt_of_cell HC0.out.2.1)]; exact HC0.out.2.1, by rw [hB.cell (block_lt_of_cell HC0.out.2.2)]; exact HC0.out.2.2⟩
  refine Said.region (by kernel_rfl) (by kernel_rfl) (by kernel_rfl) [.is (.pointer (some ⟨w.heap.size, 0, none⟩)), .is (.string Q), .is (.string q), .is (.pointer (some ⟨w.heap.size, 1, none⟩)), .is (.string Wt), .is (.string t), .is (.agg #[.string Q, .string Wt, .int .i8 K]), .is (.int .i64 (k : Int)), .is (.string q), .is (.string t), .is (.int .i64 (k : Int))] ?_
  simp only [List.toList_toArray]
  iterate 2 (
    refine sq_pure (by rfl) (fun W hb _ => ?_) ?_
    · obtain ⟨y1, y2, y3⟩ := HX.out W hb
      go_simp
    simp only [Act.put, List.setIfInBounds_toArray, List.set_cons_zero, List.set_cons_succ])
  refine sq_call (f := 9) (args := #[.string Q, .int .i64 40]) (by rfl) (fun W => by go_simp) (fun W hb _ => by rw [← hq]; exact QF.out Q W) ?_
  simp only [Act.put, List.setIfInBounds_toArray, List.set_cons_zero, List.set_cons_succ]
  iterate 2 (
    refine sq_pure (by rfl) (fun W hb _ => ?_) ?_
    · obtain ⟨y1, y2, y3⟩ := HX.out W hb
      go_simp
    simp only [Act.put, List.setIfInBounds_toArray, List.set_cons_zero, List.set_cons_succ])
  refine sq_call (f := 9) (args := #[.string Wt, .int .i64 40]) (by rfl) (fun W => by go_simp) (fun W hb _ => by rw [← ht]; exact QF.out Wt W) ?_
  simp only [Act.put, List.setIfInBounds_toArray, List.set_cons_zero, List.set_cons_succ]
  refine sq_pure (by rfl) (fun W hb _ => ?_) ?_
  · obtain ⟨y1, y2, y3⟩ := HX.out W hb
    go_simp
  simp only [Act.put, List.setIfInBounds_toArray, List.set_cons_zero, List.set_cons_succ]
  refine sq_call (f := 12) (args := #[.agg #[.string Q, .string Wt, .int .i8 K]]) (by rfl) (fun W => by go_simp) (fun W hb _ => QBd.out Q Wt W) ?_
  simp only [Act.put, List.setIfInBounds_toArray, List.set_cons_zero, List.set_cons_succ]
  iterate 3 (
    refine sq_pure (by rfl) (fun W hb _ => ?_) ?_
    · go_simp
    simp only [Act.put, List.setIfInBounds_toArray, List.set_cons_zero, List.set_cons_succ])
  refine sq_end (fun w2 hb2 hK2 => ?_)
  have H2 := Lib.hid (Below.next HB0.out (Below.next H1.out hb2))
  clear hK2 hb2 hq ht HX QBd QF HB0 HC0 H1 QW hW0
  have QN := Lib.hid (new_any q k w2 (by have := HQ.out; omega) HK.out)
  go_upto_region 7 with (go_at_call 10; (with_reducible refine QN.out.mono ?_); rintro e w3 ⟨rfl, hA, hB, hz⟩; have HA := Lib.hid hA; have H3 := Lib.hid (Below.next H2.out hB); clear hA hB hz)
  obtain ⟨p, hp⟩ : ∃ p, p = w2.heap.size := ⟨_, rfl⟩
  rw [← hp] at HA ⊢
  clear hp QN
  have hq3 : q.size ≤ 300 := by have := HQ.out; omega
  have HQ3 := Lib.hid hq3
  clear hq3
  have QS : Hid (∀ W, Below w3.heap.size w3 W → Calls Try.prog 13 #[.pointer (some ⟨p, 0, none⟩)] W fun e w' => e = .returned (.string (bin (startL q.data.toList k))) ∧ Below w3.heap.size w3 w') := Lib.hid fun W hb => (start_st HA.out hb HK.out (by have := HQ.out; omega)).mono fun e w' h => ⟨h.1, Below.next hb h.2⟩
  have QR : Hid (∀ W r (u : ByteArray), Below w3.heap.size w3 W → IsL q.data.toList k r → u.size ≤ 1000 → Calls Try.prog 18 #[.pointer (some ⟨p, 0, none⟩), .string (bin r), .slice (some ⟨W.heap.size, 0, none⟩) 1 1] (W.alloc (.cells #[.string u] 9)) fun e w' => e = .returned (.string (bin (readL q.data.toList k r u.data.toList))) ∧ Below w3.heap.size w3 w') := Lib.hid fun W r u hb hr hu => (read_one HA.out hb HK.out HQ3.out hr (by omega)).mono fun e w' h => ⟨h.1, Below.next hb h.2⟩
  have QD : Hid (∀ W r, Below w3.heap.size w3 W → IsL q.data.toList k r → Calls Try.prog 21 #[.pointer (some ⟨p, 0, none⟩), .string (bin r)] W fun e w' => e = .returned (.tuple #[.int .i64 ((if wholeL r ≤ k then wholeL r else 0 : Nat) : Int), .bool (decide (wholeL r ≤ k))]) ∧ Below w3.heap.size w3 w') := Lib.hid fun W r hb hr => (dist_st HA.out hb HK.out HQ3.out hr).mono fun e w' h => ⟨h.1, Below.next hb h.2⟩
  have QC : Hid (∀ W r, Below w3.heap.size w3 W → IsL q.data.toList k r → Calls Try.prog 23 #[.pointer (some ⟨p, 0, none⟩), .string (bin r)] W fun e w' => e = .returned (.bool (decide (minT r ≤ k))) ∧ Below w3.heap.size w3 w') := Lib.hid fun W r hb hr => (can_st HA.out hb HK.out HQ3.out hr).mono fun e w' h => ⟨h.1, Below.next hb h.2⟩
  have QT : Hid (∀ W r (c : UInt8), Below w3.heap.size w3 W → IsL q.data.toList k r → Calls Try.prog 16 #[.pointer (some ⟨p, 0, none⟩), .string (bin r), .int .u8 (c.toNat : Int)] W fun e w' => e = .returned (.string (bin (stepL q.data.toList k r c))) ∧ Below w3.heap.size w3 w') := Lib.hid fun W r c hb hr => (step_st c HA.out hb HK.out HQ3.out hr).mono fun e w' h => ⟨h.1, Below.next hb h.2⟩
  have HI0 := Lib.hid (startL_is q.data.toList k)
  have HR := Lib.hid (readL_is (q := q.data.toList) (k := k) t.data.toList (startL_is q.data.toList k))
  go_upto_region 8 with (first
    | (go_at_call 13; (with_reducible refine (QS.out _ (Below.refl _ _)).mono ?_); rintro e w4 ⟨rfl, hB⟩; have H4 := Lib.hid hB; clear hB)
    | (go_at_call 18; (with_reducible refine (QR.out _ _ t H4.out HI0.out (by have := HT.out; omega)).mono ?_); rintro e w5 ⟨rfl, hB⟩; have H5 := Lib.hid hB; clear hB))
  obtain ⟨r, hr⟩ : ∃ r, readL q.data.toList k (startL q.data.toList k) t.data.toList = r := ⟨_, rfl⟩
  rw [hr] at HR ⊢
  clear hr H4 QS HI0
  have QC1 := Lib.hid (QC.out w5 r H5.out HR.out)
  by_cases hc : minT r ≤ k
  · rw [decide_eq_true hc] at QC1
    clear hc
    go_wp2_with (go_at_call 23; (with_reducible refine QC1.out.mono ?_); rintro e w6 ⟨rfl, hB⟩; have H6 := Lib.hid hB; clear hB)
    have Q4 : Hid (∀ W (u : ByteArray), Below w3.heap.size w3 W → u.size ≤ 1000 → Calls Try.prog 18 #[.pointer (some ⟨p, 0, none⟩), .string (bin r), .slice (some ⟨W.heap.size, 0, none⟩) 1 1] (W.alloc (.cells #[.string u] 9)) fun e w' => e = .returned (.string (bin (readL q.data.toList k r u.data.toList))) ∧ Below w3.heap.size w3 w') := Lib.hid fun W u hb hu => QR.out W r u hb HR.out hu
    have hat : ∀ (n : Nat) (h : n < (bin r).size), ((bin r)[n]'h).toNat = r.getD n 0 := fun n h => by rw [← nums_at (bin r) h, nums_of HR.out HK.out]
    have hSz : (bin r).size = q.size + 1 := by rw [bin_size, HR.out.1, ba_length]
    obtain ⟨S, hS⟩ : ∃ S, bin r = S := ⟨_, rfl⟩
    rw [hS] at hat hSz Q4 ⊢
    have HA2 := Lib.hid hat
    have HS := Lib.hid hSz
    clear hat hSz hS QC QT QC1 QR
    go_loopw [13] (fun s13 wr => ∃ n : Nat, n ≤ q.size + 1 ∧ s13 = .int .i64 (n : Int) ∧ Hid (Below w3.heap.size w3 wr)) (fun s13 _ => q.size + 1 - (intOf s13).toNat)
    case atStart => exact ⟨0, Nat.zero_le _, rfl, H6⟩
    case round =>
      obtain ⟨n, hn, rfl, HB⟩ := hrel
      have hqz := HQ.out
      by_cases hlt : n ≤ q.size
      · have e1 : decide ((n : Int) ≤ (q.size : Int)) = true := by simp; omega
        have e2 : decide (n ≤ q.size) = true := by simp; omega
        have e3 : (n : Int) ≤ (q.size : Int) := by omega
        have e4 : (n : Int) < (S.size : Int) := by have := HS.out; omega
        have hat := HA2.out n
        have hway := way_on (k := k) (q := q.data.toList) (q.size - n) n HR.out (by rw [ba_length]; omega)
        have hus : (q.extract n q.size).data.toList = q.data.toList.drop n := by rw [ba_extract, List.take_of_length_le]; simp
        have huz : (q.extract n q.size).size ≤ 1000 := by rw [← ba_length, hus, List.length_drop, ba_length]; have := HQ.out; omega
        have Q5 := Lib.hid (Q4.out wr (q.extract n q.size) HB.out huz)
        rw [hus] at Q5
        have hr' := readL_is (q := q.data.toList) (k := k) (q.data.toList.drop n) HR.out
        obtain ⟨r', hrr⟩ : ∃ r', readL q.data.toList k r (q.data.toList.drop n) = r' := ⟨_, rfl⟩
        rw [hrr] at hway hr' Q5
        have HR' := Lib.hid hr'
        obtain ⟨x, hx⟩ : ∃ x, r.getD n 0 = x := ⟨_, rfl⟩
        have hx4 : x ≤ 4 := by rw [← hx]; have := HR.out.2 n; have := HK.out; omega
        rw [hx] at hway hat
        have w8 : IntKind.i64.wrap (x : Int) = (x : Int) := IntWalk.i64_in _ (by omega)
        obtain ⟨y, hy⟩ : ∃ y, wholeL r' = y := ⟨_, rfl⟩
        have Q6 : Hid (∀ W, Below w3.heap.size w3 W → Calls Try.prog 21 #[.pointer (some ⟨p, 0, none⟩), .string (bin r')] W fun e w' => e = .returned (.tuple #[.int .i64 ((if y ≤ k then y else 0 : Nat) : Int), .bool (decide (y ≤ k))]) ∧ Below w3.heap.size w3 w') := Lib.hid fun W hb => by rw [← hy]; exact QD.out W r' hb HR'.out
        rw [hy] at hway
        clear hy hrr hus huz hr' hx
        by_cases hxk : x ≤ k
        · have f1 : decide ((x : Int) ≤ (k : Int)) = true := by simp; omega
          have f2 : decide (x ≤ k) = true := by simp; omega
          have f3 : decide ((y : Int) > (x : Int)) = false := by simp; omega
          have f4 : decide (x < y) = false := by simp; omega
          rw [if_pos (by omega), decide_eq_true (by omega)] at Q6
          clear hxk hway
          go_wp2_with (first
            | (go_at_call 18; (with_reducible refine Q5.out.mono ?_); rintro e w7 ⟨rfl, hB⟩; have H7 := Lib.hid hB; clear hB)
            | (go_at_call 21; (with_reducible refine (Q6.out _ H7.out).mono ?_); rintro e w8 ⟨rfl, hB⟩; have H8 := Lib.hid hB; clear hB))
          go_roundw
          case rel => exact ⟨n + 1, by omega, by go_num, H8⟩
          case measure => simp [intOf]; omega
        · have f1 : decide ((x : Int) ≤ (k : Int)) = false := by simp; omega
          have f2 : decide (x ≤ k) = false := by simp; omega
          obtain ⟨u, b, hub⟩ : ∃ u b, Value.tuple #[.int .i64 ((if y ≤ k then y else 0 : Nat) : Int), .bool (decide (y ≤ k))] = .tuple #[.int .i64 u, .bool b] := ⟨_, _, rfl⟩
          rw [hub] at Q6
          clear hxk hway hub
          go_wp2_with (first
            | (go_at_call 18; (with_reducible refine Q5.out.mono ?_); rintro e w7 ⟨rfl, hB⟩; have H7 := Lib.hid hB; clear hB)
            | (go_at_call 21; (with_reducible refine (Q6.out _ H7.out).mono ?_); rintro e w8 ⟨rfl, hB⟩; have H8 := Lib.hid hB; clear hB))
          go_roundw
          case rel => exact ⟨n + 1, by omega, by go_num, H8⟩
          case measure => simp [intOf]; omega
      · have e1 : decide ((n : Int) ≤ (q.size : Int)) = false := by simp; omega
        have e2 : decide (n ≤ q.size) = false := by simp; omega
        go_wp2
        go_ret
        exact ⟨rfl, Below.next H3.out HB.out⟩
  · rw [decide_eq_false hc] at QC1
    have HD : Hid (k < minT r) := Lib.hid (by omega)
    clear hc
    go_wp2_with (go_at_call 23; (with_reducible refine QC1.out.mono ?_); rintro e w6 ⟨rfl, hB⟩; have H6 := Lib.hid hB; clear hB)
    have Q1 : Hid (∀ W (c : UInt8), Below w3.heap.size w3 W → Calls Try.prog 16 #[.pointer (some ⟨p, 0, none⟩), .string (bin r), .int .u8 (c.toNat : Int)] W fun e w' => e = .returned (.string (bin r)) ∧ Below w3.heap.size w3 w') := Lib.hid fun W c hb => by
      have h := QT.out W r c hb HR.out
      rw [dead_step HR.out HD.out c] at h
      exact h
    have Q2 : Hid (∀ W, Below w3.heap.size w3 W → Calls Try.prog 21 #[.pointer (some ⟨p, 0, none⟩), .string (bin r)] W fun e w' => e = .returned (.tuple #[.int .i64 0, .bool false]) ∧ Below w3.heap.size w3 w') := Lib.hid fun W hb => by
      have h := QD.out W r hb HR.out
      have hw := min_whole HR.out
      have := HD.out
      rw [if_neg (by omega), decide_eq_false (by omega)] at h
      exact h
    have Q3 : Hid (∀ W, Below w3.heap.size w3 W → Calls Try.prog 23 #[.pointer (some ⟨p, 0, none⟩), .string (bin r)] W fun e w' => e = .returned (.bool false) ∧ Below w3.heap.size w3 w') := Lib.hid fun W hb => by
      have h := QC.out W r hb HR.out
      rw [decide_eq_false (by have := HD.out; omega)] at h
      exact h
    clear QC QD QT QR QC1
    go_loopw [9, 10] (fun s9 s10 wr => ∃ i : Nat, i ≤ 40 ∧ i ≤ more.size ∧ s10 = .int .i64 (i : Int) ∧ s9 = .string (bin r) ∧ Hid (Below w3.heap.size w3 wr)) (fun _ s10 _ => 40 - (intOf s10).toNat)
    case atStart => exact ⟨0, by omega, Nat.zero_le _, rfl, rfl, H6⟩
    case round =>
      obtain ⟨i, hi, him, rfl, rfl, HB⟩ := hrel
      by_cases h1 : i < more.size
      · have e1 : decide ((i : Int) < (more.size : Int)) = true := by simp; omega
        have e2 : decide (i < more.size) = true := by simp; omega
        have e3 : (i : Int) < (more.size : Int) := by omega
        by_cases h2 : i < 40
        · have f1 : decide ((i : Int) < 40) = true := by simp; omega
          have f2 : decide (i < 40) = true := by simp; omega
          go_wp2_with (first
            | (go_at_call 16; (with_reducible refine (Q1.out _ _ HB.out).mono ?_); rintro e w7 ⟨rfl, hB⟩; have H7 := Lib.hid hB; clear hB)
            | (go_at_call 21; (with_reducible refine (Q2.out _ H7.out).mono ?_); rintro e w8 ⟨rfl, hB⟩; have H8 := Lib.hid hB; clear hB)
            | (go_at_call 23; (with_reducible refine (Q3.out _ H8.out).mono ?_); rintro e w9 ⟨rfl, hB⟩; have H9 := Lib.hid hB; clear hB))
          go_roundw
          case rel => exact ⟨i + 1, by omega, by omega, by go_num, rfl, H9⟩
          case measure => simp [intOf]; omega
        · have f1 : decide ((i : Int) < 40) = false := by simp; omega
          have f2 : decide (i < 40) = false := by simp; omega
          go_wp2
          go_ret
          exact ⟨rfl, Below.next H3.out HB.out⟩
      · have e1 : decide ((i : Int) < (more.size : Int)) = false := by simp; omega
        have e2 : decide (i < more.size) = false := by simp; omega
        go_wp2
        go_ret
        exact ⟨rfl, Below.next H3.out HB.out⟩
end Go.Proofs.Ythgdanbkngnckaa

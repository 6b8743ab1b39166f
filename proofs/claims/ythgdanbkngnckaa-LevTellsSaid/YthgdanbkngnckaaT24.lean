/-
  lev's foreign, leads, apart, Bytes. lev's apart and Bytes. The chapter's examples: the statements' works. What the statements ask with: few, bound, a state's questions. The document's automaton: its state, its start, what is a state. The document's Step, Read, Dist, Can. The document's Read, other. The document's Bytes. The statements' state: what is asked of a state, of both. What LevTells asks else: May, the document's Read of one byte, the program's Read of one byte. The odd state: a row of bytes of one's own, made of a text, turned byte by byte.
-/
import Derived.Test.YthgdanbkngnckaaT11
import Derived.Test.YthgdanbkngnckaaT23
import Derived.Lib.IndexLaws
set_option linter.unusedVariables false
set_option linter.unusedSimpArgs false
namespace Go.Proofs.Ythgdanbkngnckaa
open Go.RowKit Go.Shelf Said

theorem index_in {l : List UInt8} {c : UInt8} (h : 0 ≤ Lib.indexByte l c) : c ∈ l := by
  obtain ⟨o, ho⟩ : ∃ o : Nat, Lib.indexByte l c = (o : Int) := ⟨(Lib.indexByte l c).toNat, by omega⟩
  exact List.mem_of_getElem? (Lib.indexByte_some ho).1
theorem index_out {l : List UInt8} {c : UInt8} (h : ¬ 0 ≤ Lib.indexByte l c) : c ∉ l := by
  have h1 := Lib.indexByte_ge l c
  have h2 : Lib.indexByte l c = -1 := by omega
  intro hm
  obtain ⟨k, hk, e⟩ := List.getElem_of_mem hm
  exact Lib.indexByte_none h2 k (by rw [List.getElem?_eq_getElem hk, e])

theorem sub_len {α : Type} [DecidableEq α] : ∀ (l m : List α), l.Nodup → (∀ x ∈ l, x ∈ m) → l.length ≤ m.length
  | [], _, _, _ => Nat.zero_le _
  | x :: l, m, hn, hs => by
    have hx := hs x List.mem_cons_self
    have hn' := List.nodup_cons.1 hn
    have h1 := sub_len l (m.erase x) hn'.2 fun y hy => (List.mem_erase_of_ne (fun e : y = x => hn'.1 (by rw [← e]; exact hy))).2 (hs y (List.mem_cons_of_mem _ hy))
    rw [List.length_erase_of_mem hx] at h1
    have h2 := List.length_pos_of_mem hx
    rw [List.length_cons]
    omega
/-- Not all bytes are among so few. -/
theorem not_all {q : List UInt8} (hq : q.length ≤ 255) (h : ∀ i, i < 256 → UInt8.ofNat i ∈ q) : False := by
  have h1 : (List.range 256).length ≤ (q.map UInt8.toNat).length := by
    exact sub_len _ _ List.nodup_range fun i hi => by
      have hi := List.mem_range.1 hi
      refine List.mem_map.2 ⟨UInt8.ofNat i, h i hi, ?_⟩
      simp
      omega
  simp at h1
  omega

set_option maxRecDepth 100000 in
theorem foreign_any {q : ByteArray} {p k : Nat} {w : World} (hA : AutoAt w p q k) (hq : q.size ≤ 255) :
    Calls Try.prog 61 #[.pointer (some ⟨p, 0, none⟩)] w fun e w' => (∃ c : UInt8, e = .returned (.int .u8 (c.toNat : Int)) ∧ c ∉ q.data.toList) ∧ w = w' := by
  have c0 := hA.1
  have HQ := Lib.hid hq
  clear hA
  go_enter Try.func61, Try.ntmps61
  go_wp2
  go_loop [3] (fun s3 => ∃ j : Nat, j < 256 ∧ s3 = .int .u8 (j : Int) ∧ Hid (∀ i, i < j → UInt8.ofNat i ∈ q.data.toList)) (fun s3 => 256 - (intOf s3).toNat)
  case atStart => exact ⟨0, by omega, rfl, Lib.hid fun i hi => by omega⟩
  case round =>
    obtain ⟨j, hj, rfl, HJ⟩ := hrel
    have e8 : ((j : Int)).toNat.toUInt8 = UInt8.ofNat j := rfl
    have QI := Lib.hid (Try.strings_IndexByte q (j : Int) w)
    rw [e8] at QI
    obtain ⟨x, hx⟩ : ∃ x, Lib.indexByte q.data.toList (UInt8.ofNat j) = x := ⟨_, rfl⟩
    rw [hx] at QI
    by_cases hin : 0 ≤ x
    · have hall : ∀ i, i < j + 1 → UInt8.ofNat i ∈ q.data.toList := fun i hi => by
        by_cases e : i = j
        · subst e; exact index_in (by rw [hx]; exact hin)
        · exact HJ.out i (by omega)
      have hj2 : j + 1 < 256 := by
        by_cases e : j + 1 < 256
        · exact e
        · exact (not_all (by rw [ba_length]; exact HQ.out) (fun i hi => hall i (by omega))).elim
      have HALL := Lib.hid hall
      have e1 : decide (x ≥ 0) = true := by simp; omega
      have e2 : decide (0 ≤ x) = true := by simp; omega
      have w8 : IntKind.u8.wrap ((j : Int) + 1) = ((j + 1 : Nat) : Int) := wrap8 (by omega)
      clear hall hx e8
      go_wp2_with (go_at_call 74; (with_reducible refine QI.out.mono ?_); rintro e w' ⟨rfl, rfl⟩)
      go_round
      case rel => exact ⟨j + 1, hj2, by go_num, HALL⟩
      case measure => simp [intOf]; omega
    · have e1 : decide (x ≥ 0) = false := by simp; omega
      have e2 : decide (0 ≤ x) = false := by simp; omega
      have HO := Lib.hid (index_out (by rw [hx]; exact hin))
      clear hx e8
      go_wp2_with (go_at_call 74; (with_reducible refine QI.out.mono ?_); rintro e w' ⟨rfl, rfl⟩)
      go_ret
      refine ⟨⟨UInt8.ofNat j, ?_, HO.out⟩, rfl⟩
      have : (UInt8.ofNat j).toNat = j := by simp; omega
      rw [this]
      rfl

/-! ### leads -/
/-- The key of the state that a byte leads to. -/
def keyL (q : List UInt8) (k : Nat) (r : List Nat) (c : UInt8) : List UInt8 := (bin (stepL q k r c)).data.toList
theorem bin_inj {q : List UInt8} {k : Nat} {r r' : List Nat} (hk : k ≤ 3) (h : IsL q k r) (h' : IsL q k r') (e : (bin r).data.toList = (bin r').data.toList) : r = r' := by
  rw [← nums_of h hk, ← nums_of h' hk, ba_ext e]
theorem keyL_inj {q : List UInt8} {k : Nat} {r : List Nat} {b c : UInt8} (hk : k ≤ 3) (e : keyL q k r b = keyL q k r c) : stepL q k r b = stepL q k r c := bin_inj hk (stepL_is _ _ _ _) (stepL_is _ _ _ _) e

/-- What the map has when the first n bytes have been looked at. -/
structure LdT (q : List UInt8) (k : Nat) (r : List Nat) (n : Nat) (K : List UInt8 → Prop) (g : List UInt8 → UInt8) : Prop where
  has : ∀ i, i < n → r.getD i 0 ≤ k → K (keyL q k r (q.getD i 0))
  of : ∀ y, K y → ∃ i, i < n ∧ r.getD i 0 ≤ k ∧ g y = q.getD i 0 ∧ y = keyL q k r (q.getD i 0)

theorem LdT.skip {q : List UInt8} {k : Nat} {r : List Nat} {n : Nat} {K : List UInt8 → Prop} {g : List UInt8 → UInt8} (h : LdT q k r n K g) (hn : ¬ r.getD n 0 ≤ k) : LdT q k r (n + 1) K g :=
  ⟨fun i hi hr => h.has i (by by_cases e : i = n; · subst e; exact (hn hr).elim
                              · omega) hr, fun y hy => by obtain ⟨i, h1, h2⟩ := h.of y hy; exact ⟨i, by omega, h2⟩⟩
theorem LdT.put {q : List UInt8} {k : Nat} {r : List Nat} {n : Nat} {K : List UInt8 → Prop} {g : List UInt8 → UInt8} (h : LdT q k r n K g) (hn : r.getD n 0 ≤ k) {c : UInt8} (hc : q.getD n 0 = c) {t : List UInt8} (ht : t = keyL q k r c) :
    LdT q k r (n + 1) (fun y => y = t ∨ K y) (fun y => if y = t then c else g y) := by
  subst hc ht
  refine ⟨fun i hi hr => ?_, fun y hy => ?_⟩
  · by_cases e : i = n
    · subst e; exact .inl rfl
    · exact .inr (h.has i (by omega) hr)
  · by_cases e : y = keyL q k r (q.getD n 0)
    · exact ⟨n, by omega, hn, by simp only [if_pos e], e⟩
    · rcases hy with hy | hy
      · exact (e hy).elim
      · obtain ⟨i, h1, h2, h3, h4⟩ := h.of y hy
        exact ⟨i, by omega, h2, by simp only [if_neg e]; exact h3, h4⟩

/-- The bytes that lead elsewhere. -/
def TellsB (q : List UInt8) (k : Nat) (r : List Nat) (o : UInt8) (x : UInt8) : Prop := x ∈ q ∧ stepL q k r x ≠ stepL q k r o
theorem LdT.tells {q : List UInt8} {k : Nat} {r : List Nat} {K : List UInt8 → Prop} {g : List UInt8 → UInt8} (h : LdT q k r q.length K g) (hk : k ≤ 3) {o : UInt8} (ho : o ∉ q) {ko : List UInt8} (hko : ko = keyL q k r o) :
    (∀ x, TellsB q k r o x ↔ ∃ y, (y ≠ ko ∧ K y) ∧ g y = x) ∧ OneS (fun y => y ≠ ko ∧ K y) g := by
  subst hko
  have key : ∀ y, y ≠ keyL q k r o ∧ K y → y = keyL q k r (g y) ∧ TellsB q k r o (g y) := fun y ⟨h1, h2⟩ => by
    obtain ⟨i, hi, hr, hg, hy⟩ := h.of y h2
    rw [← hg] at hy
    refine ⟨hy, ?_, fun e => h1 ?_⟩
    · rw [hg]; simp [List.getD, hi]
    · rw [hy, keyL, e]; rfl
  refine ⟨fun x => ⟨fun ⟨hx, hne⟩ => ?_, fun ⟨y, hy, e⟩ => ?_⟩, fun x y hx hy e => ?_⟩
  · obtain ⟨i, hi, hq, hr⟩ := leads_in ho hne
    have hK := h.has i hi hr
    rw [hq] at hK
    have hky : keyL q k r x ≠ keyL q k r o := fun e => hne (keyL_inj hk e)
    refine ⟨keyL q k r x, ⟨hky, hK⟩, ?_⟩
    obtain ⟨e, -, hne2⟩ := key _ ⟨hky, hK⟩
    exact (leads_one ho hne (keyL_inj hk e)).symm
  · rw [← e]; exact (key y hy).2
  · rw [(key x hx).1, (key y hy).1, e]

structure LdS (w : World) (q : ByteArray) (k : Nat) (r : List Nat) (b m n : Nat) (W : World) : Prop where
  cells : ∀ i, i < q.size → W.cell? ⟨b, i, none⟩ = some (.int .u8 ((q.data.toList.getD i 0).toNat : Int))
  map : ∃ N K g, N ≤ n ∧ SMap W m N K g ∧ LdT q.data.toList k r n K g
  bel : Below w.heap.size w W
  ne : b ≠ m
  hm : w.heap.size ≤ m
theorem LdS.below {w : World} {q : ByteArray} {k : Nat} {r : List Nat} {b m n : Nat} {W W' : World} (h : LdS w q k r b m n W) (hb : Below W.heap.size W W') : LdS w q k r b m n W' := by
  obtain ⟨N, K, g, h1, h2, h3⟩ := h.map
  exact ⟨fun i hi => by rw [hb.cell (block_lt_of_cell (h.cells i hi))]; exact h.cells i hi, ⟨N, K, g, h1, h2.same (hb.block m h2.lt), h3⟩, Below.next h.bel hb, h.ne, h.hm⟩

set_option maxHeartbeats 2000000 in
set_option maxRecDepth 100000 in
theorem leads_any {q s : ByteArray} {p k : Nat} {w : World} (hA : AutoAt w p q k) (hk : k ≤ 3) (hq : q.size ≤ 255) (hs : IsL q.data.toList k (nums s)) :
    Calls Try.prog 62 #[.pointer (some ⟨p, 0, none⟩), .string s] w fun e w' => ∃ m N K g, e = .returned (.map (some m)) ∧ SMap w' m N K g ∧ LdT q.data.toList k (nums s) q.data.toList.length K g ∧ Below w.heap.size w w' ∧ w.heap.size ≤ m := by
  have c0 := hA.1
  have hsz : s.size = q.size + 1 := by rw [← nums_length, hs.1, ba_length]
  have HA := Lib.hid hA
  have HS := Lib.hid hs
  have hmm := @run_makeMap Try.prog
  have M0 := smap_made w (fun _ => 0)
  have B0 : Below w.heap.size w (w.alloc (.map #[] 0)) := below_alloc w _
  have Z0 : (w.alloc (.map #[] 0)).heap.size = w.heap.size + 1 := by simp
  have HSZ := Lib.hid hsz
  clear hA hs hsz
  go_enter Try.func62, Try.ntmps62
  go_upto_region 2 with fail
  obtain ⟨w1, hw1⟩ : ∃ w1, w1 = w.alloc (.map #[] 0) := ⟨_, rfl⟩
  rw [← hw1] at M0 B0 Z0 ⊢
  clear hw1 hmm
  obtain ⟨m, hm⟩ : ∃ m, m = w.heap.size := ⟨_, rfl⟩
  rw [← hm] at M0 ⊢
  have hcv := Lib.run_convert_string_bytes (P := Try.prog) w1 9 38 5 q Try.underlying9 Try.underlying38 Try.underlying5
  have B1 := below_conv w1 q
  have C1 : ∀ i, i < q.size → (Lib.bytesWorld w1 5 q).cell? ⟨w1.heap.size, i, none⟩ = some (.int .u8 ((q.data.toList.getD i 0).toNat : Int)) := fun i hi => Lib.bytesWorld_cell w1 5 q i hi
  obtain ⟨b, hb⟩ : ∃ b, b = w1.heap.size := ⟨_, rfl⟩
  obtain ⟨w2, hw2⟩ : ∃ w2, w2 = Lib.bytesWorld w1 5 q := ⟨_, rfl⟩
  obtain ⟨cp, hcp⟩ : ∃ cp, cp = grownCap w1 q.size 0 5 := ⟨_, rfl⟩
  have hbm : b ≠ m := by omega
  rw [← hw2, ← hb] at C1
  rw [← hw2, ← hb, ← hcp] at hcv
  rw [← hw2] at B1
  have c1 : w1.cell? ⟨p, 0, none⟩ = some (.string q) := by rw [B0.cell (block_lt_of_cell c0)]; exact c0
  have L0 : Hid (LdS w q k (nums s) b m 0 w2) := Lib.hid ⟨C1, ⟨0, _, _, Nat.le_refl _, M0.same (B1.block m (by omega)), ⟨fun i hi => by omega, fun y hy => hy.elim⟩⟩, Below.next B0 B1, hbm, by omega⟩
  clear M0 B0 B1 Z0 C1 c0 hb hw2 hcp hbm hm
  go_wp2
  go_loopw [15] (fun s15 wr => ∃ j : Nat, j ≤ q.size ∧ s15 = .int .i64 (j : Int) ∧ Hid (LdS w q k (nums s) b m j wr)) (fun s15 _ => q.size - (intOf s15).toNat)
  case atStart => exact ⟨0, Nat.zero_le _, rfl, L0⟩
  case round =>
    obtain ⟨j, hj, rfl, HL⟩ := hrel
    by_cases hlt : j < q.size
    · have e4 : decide ((j : Int) < (q.size : Int)) = true := by simp; omega
      have e5 : decide (j < q.size) = true := by simp; omega
      have il : (j : Int) < (q.size : Int) := by omega
      have il2 : (j : Int) < (s.size : Int) := by have := HSZ.out; omega
      have kc := HL.out.cells j hlt
      have cA := HA.out.below HL.out.bel
      obtain ⟨cq, ck⟩ := cA
      have hsj : ∀ h : j < s.size, (s[j]'h).toNat = (nums s).getD j 0 := fun h => by rw [nums_at s h]
      obtain ⟨x, hx⟩ : ∃ x, (nums s).getD j 0 = x := ⟨_, rfl⟩
      obtain ⟨c, hc⟩ : ∃ c, q.data.toList.getD j 0 = c := ⟨_, rfl⟩
      rw [hx] at hsj
      rw [hc] at kc
      have HX := Lib.hid (And.intro hx hc)
      clear hx hc
      by_cases hle : x ≤ k
      · have f1 : decide ((x : Int) ≤ (k : Int)) = true := by simp; omega
        have f2 : decide (x ≤ k) = true := by simp; omega
        have HLE := Lib.hid hle
        clear hle
        go_upto_region 5 with fail
        go_quiet (fail)
        obtain ⟨w5, hw5⟩ : ∃ w5, w5 = wr.drewN nq := ⟨_, rfl⟩
        have L5 : Hid (LdS w q k (nums s) b m j w5) := Lib.hid (by rw [hw5]; exact HL.out.below (below_drewN (Below.refl _ wr) nq))
        rw [← hw5]
        clear hw5
        have QS := Lib.hid (step_any (HA.out.below L5.out.bel) hk c (by omega) HS.out)
        obtain ⟨S, hS⟩ : ∃ S, bin (stepL q.data.toList k (nums s) c) = S := ⟨_, rfl⟩
        rw [hS] at QS
        have hSz : S.size ≤ 1000000000 := by rw [← hS, bin_size, (stepL_is _ _ _ _).1, ba_length]; omega
        have HSS := Lib.hid hS
        clear hS
        obtain ⟨N, K, g, hN, hM, hT⟩ := L5.out.map
        have HT := Lib.hid (And.intro hN (And.intro hM hT))
        clear hN hM hT
        go_wp2_with (first
          | (go_at_call 34; (with_reducible refine QS.out.mono ?_); rintro e w6 ⟨rfl, hB6⟩; have H6 := Lib.hid hB6; clear hB6)
          | (refine wpList_put_state _ rfl _ _ _ rfl m N K g S c rfl rfl rfl (HT.out.2.1.same (H6.out.block m HT.out.2.1.lt)) (by have := HT.out.1; omega) hSz (fun w7 hm7 hg7 => ?_); have H7 := Lib.hid (And.intro hm7 hg7); clear hm7 hg7))
        have L7 : Hid (LdS w q k (nums s) b m (j + 1) w7) := Lib.hid (by
          have L6 := L5.out.below H6.out
          refine ⟨fun i hi => ?_, ⟨N + 1, _, _, by have := HT.out.1; omega, H7.out.1, HT.out.2.2.put (by rw [HX.out.1]; exact HLE.out) HX.out.2 (by rw [← HSS.out]; rfl)⟩, L6.bel.grown H7.out.2 L6.bel.size (fun k e => by cases e; exact L6.hm), L6.ne, L6.hm⟩
          have hc := L6.cells i hi
          have hbk : w7.heap[b]? = w6.heap[b]? := H7.out.2.block b (block_lt_of_cell hc) (fun e => L6.ne (by injection e))
          rw [← hc]
          simp [World.cell?, hbk])
        go_roundw
        case rel => exact ⟨j + 1, by omega, by go_num, L7⟩
        case measure => simp [intOf]; omega
      · have f1 : decide ((x : Int) ≤ (k : Int)) = false := by simp; omega
        have f2 : decide (x ≤ k) = false := by simp; omega
        have HLE := Lib.hid hle
        clear hle
        go_upto_region 5 with fail
        go_quiet (fail)
        obtain ⟨w5, hw5⟩ : ∃ w5, w5 = wr.drewN nq := ⟨_, rfl⟩
        have L5 : Hid (LdS w q k (nums s) b m (j + 1) w5) := Lib.hid (by
          rw [hw5]
          have L := HL.out.below (below_drewN (Below.refl _ wr) nq)
          obtain ⟨N, K, g, h1, h2, h3⟩ := L.map
          exact ⟨L.cells, ⟨N, K, g, by omega, h2, h3.skip (by rw [HX.out.1]; exact HLE.out)⟩, L.bel, L.ne, L.hm⟩)
        rw [← hw5]
        clear hw5
        go_wp2
        go_roundw
        case rel => exact ⟨j + 1, by omega, by go_num, L5⟩
        case measure => simp [intOf]; omega
    · have hjn : j = q.size := by omega
      have e4 : decide ((j : Int) < (q.size : Int)) = false := by simp; omega
      have e5 : decide (j < q.size) = false := by simp; omega
      have HJ := Lib.hid hjn
      clear hjn hlt
      go_wp2
      go_ret
      obtain ⟨N, K, g, h1, h2, h3⟩ := HL.out.map
      rw [HJ.out, ← ba_length] at h3
      exact ⟨m, N, K, g, rfl, h2, h3, HL.out.bel, HL.out.hm⟩
end Go.Proofs.Ythgdanbkngnckaa
namespace Go.Proofs.Ythgdanbkngnckaa
open Go.RowKit Go.Shelf Said

/-- The bytes that are told, rising. -/
def tellsT (q : List UInt8) (k : Nat) (r : List Nat) (o : UInt8) : List UInt8 := ((List.range 256).map UInt8.ofNat).filter fun x => decide (x ∈ q ∧ stepL q k r x ≠ stepL q k r o)
theorem tellsT_mem (q : List UInt8) (k : Nat) (r : List Nat) (o x : UInt8) : x ∈ tellsT q k r o ↔ TellsB q k r o x := by
  unfold tellsT TellsB
  rw [List.mem_filter, decide_eq_true_eq]
  refine ⟨fun h => h.2, fun h => ⟨List.mem_map.2 ⟨x.toNat, List.mem_range.2 x.toNat_lt, by simp⟩, h⟩⟩
theorem tellsT_rising (q : List UInt8) (k : Nat) (r : List Nat) (o : UInt8) : (tellsT q k r o).Pairwise (fun a b => a.toNat < b.toNat) := by
  refine List.Pairwise.filter _ ?_
  rw [List.pairwise_map]
  refine (List.pairwise_lt_range (n := 256)).imp_of_mem fun {a b} ha hb h => ?_
  have := List.mem_range.1 ha
  have := List.mem_range.1 hb
  simp
  omega
theorem tellsT_foreign (q : List UInt8) (k : Nat) (r : List Nat) {o o' : UInt8} (h : o ∉ q) (h' : o' ∉ q) : tellsT q k r o = tellsT q k r o' := by
  unfold tellsT
  rw [step_foreign h h']
theorem ownsRow_down {w : World} {base base' : Nat} {e : TypeId} {size n : Nat} {v : Value} {xs : List Value} (h : w.ownsRow base e size v n xs) (hb : base' ≤ base) : w.ownsRow base' e size v n xs := by
  refine ⟨h.1, ?_⟩
  rcases h.2 with h | ⟨g, cap, cur, h1, h2, h3⟩
  · exact .inl h
  · exact .inr ⟨g, cap, cur, h1, Nat.le_trans hb h2, h3⟩

set_option maxRecDepth 100000 in
theorem values_any (m : Nat) (w : World) : Calls Try.prog 64 #[.map (some m)] w fun e w' =>
    e = .returned (.func (.func 77) #[] #[.pointer (some ⟨w.heap.size, 0, none⟩)]) ∧ Below w.heap.size w w' ∧ w.heap.size < w'.heap.size ∧ w'.cell? ⟨w.heap.size, 0, none⟩ = some (.map (some m)) := by
  have H := Lib.hid (And.intro (below_alloc w (.cells #[.map (some m)] 91)) (And.intro (show w.heap.size < (w.alloc (.cells #[.map (some m)] 91)).heap.size by simp) (show (w.alloc (.cells #[.map (some m)] 91)).cell? ⟨w.heap.size, 0, none⟩ = some (.map (some m)) by simp [go_sem])))
  go_enter Try.func64, Try.ntmps64
  go_wp2
  go_ret
  exact ⟨rfl, H.out⟩

/-- What Bytes tells of a state. -/
def Told (w : World) (q : List UInt8) (k : Nat) (r : List Nat) (e : Ending) (w' : World) : Prop :=
  ∃ v o, e = .returned (.tuple #[v, .bool (decide (minT (stepL q k r o) ≤ k))]) ∧ o ∉ q ∧ w'.ownsRow w.heap.size 5 1 v (tellsT q k r o).length ((tellsT q k r o).map enc8) ∧ Below w.heap.size w w'

theorem sorted_vals {W : World} {Bm m N k : Nat} {K : List UInt8 → Prop} {g : List UInt8 → UInt8} {q : List UInt8} {r : List Nat} {o : UInt8} {ko : List UInt8} (hM : SMap W m N (fun y => y ≠ ko ∧ K y) g) (hz : Bm < W.heap.size) (hc : W.cell? ⟨Bm, 0, none⟩ = some (.map (some m))) (hT : LdT q k r q.length K g) (hk : k ≤ 3) (ho : o ∉ q) (hko : ko = keyL q k r o) (hf : (tellsT q k r o).length < 300) :
    Calls Try.prog 63 #[.func (.func 77) #[] #[.pointer (some ⟨Bm, 0, none⟩)]] W fun e w' =>
      ∃ v, e = .returned v ∧ w'.ownsRow W.heap.size 5 1 v (tellsT q k r o).length ((tellsT q k r o).map enc8) ∧ Below W.heap.size W w' := by
  obtain ⟨h1, h2⟩ := hT.tells hk ho hko
  exact sorted_keys Bm _ g (tellsT q k r o) W (fun n hn => vals_stops n hn Bm m N _ g h2 W hz hc hM) (tellsT_rising _ _ _ _) (fun x => (tellsT_mem _ _ _ _ x).trans (h1 x)) h2 hf

theorem row_below {w w' : World} {base : Nat} {e : TypeId} {size n : Nat} {v : Value} {xs : List Value} (h : w.ownsRow base e size v n xs) (hb : Below w.heap.size w w') : w'.ownsRow base e size v n xs := by
  refine h.kept (row := none) ⟨hb.os, hb.tape, hb.output, hb.size, fun k hk _ => hb.block k hk⟩ ?_
  rcases h.2 with ⟨rfl, _⟩ | ⟨g, cap, cur, rfl, _⟩
  · exact .inl rfl
  · exact .inr (by simp [Value.ownBlock])
theorem can_step {q s : ByteArray} {p k : Nat} {w W : World} (hA : AutoAt w p q k) (hb : Below w.heap.size w W) (hk : k ≤ 3) (o : UInt8) (hq : q.size ≤ 255) :
    Calls Try.prog 36 #[.pointer (some ⟨p, 0, none⟩), .string (bin (stepL q.data.toList k (nums s) o))] W fun e w' => e = .returned (.bool (decide (minT (stepL q.data.toList k (nums s) o) ≤ k))) ∧ Below W.heap.size W w' := by
  have hi := stepL_is q.data.toList k (nums s) o
  have hn := nums_of hi hk
  have h := can_lev (s := bin (stepL q.data.toList k (nums s) o)) (hA.below hb) hk (by rw [hn]; exact hi) (by omega)
  rw [hn] at h
  exact h

set_option maxHeartbeats 2000000 in
set_option maxRecDepth 100000 in
theorem apart_any {q s : ByteArray} {p k : Nat} {w : World} (hA : AutoAt w p q k) (hk : k ≤ 3) (hq : q.size ≤ 255) (hs : IsL q.data.toList k (nums s)) (hf : ∀ o, o ∉ q.data.toList → (tellsT q.data.toList k (nums s) o).length < 300) :
    Calls Try.prog 43 #[.pointer (some ⟨p, 0, none⟩), .string s] w (Told w q.data.toList k (nums s)) := by
  have QF := Lib.hid (foreign_any hA hq)
  have HA := Lib.hid hA
  have HS := Lib.hid hs
  have HF := Lib.hid hf
  clear hA hs hf
  go_enter Try.func43, Try.ntmps43
  go_wp2_with (first
    | (go_at_call 61; (with_reducible refine QF.out.mono ?_); rintro e w1 ⟨⟨o, rfl, ho⟩, rfl⟩; have HO := Lib.hid ho; clear ho)
    | (go_at_call 34; (with_reducible refine (step_any HA.out hk o (by omega) HS.out).mono ?_); rintro e w2 ⟨rfl, hB2⟩; have H2 := Lib.hid hB2; clear hB2)
    | (go_at_call 62; (with_reducible refine (leads_any (HA.out.below H2.out) hk hq HS.out).mono ?_); rintro e w3 ⟨m, N, K, g, rfl, hM, hT, hB3, hm⟩; have H3 := Lib.hid (And.intro hM (And.intro hT (And.intro (Below.next H2.out hB3) (Nat.le_trans H2.out.size hm)))); clear hM hT hB3 hm)
    | (at_delete; go_loud (refine wpList_drop_state _ rfl _ _ rfl m N K g (bin (stepL q.data.toList k (nums s) o)) rfl rfl H3.out.1 (by rw [bin_size, (stepL_is _ _ _ _).1, ba_length]; omega) ?_; intro w4 h4 g4; have H4 := Lib.hid (And.intro h4 (H3.out.2.2.1.grown g4.grown H3.out.2.2.1.size (fun k e => by cases e; exact H3.out.2.2.2))); clear h4 g4))
    | (go_at_call 64; (with_reducible refine (values_any m w4).mono ?_); rintro e w5 ⟨rfl, hB5, hz5, hc5⟩; have H5 := Lib.hid (And.intro (H4.out.1.same (hB5.block m H4.out.1.lt)) (And.intro (Below.next H4.out.2 hB5) (And.intro hz5 hc5))); clear hB5 hz5 hc5)
    | (go_at_call 63; (with_reducible refine (sorted_vals H5.out.1 H5.out.2.2.1 H5.out.2.2.2 H3.out.2.1 hk HO.out rfl (HF.out o HO.out)).mono ?_); rintro e w6 ⟨v, rfl, hr6, hB6⟩; have H6 := Lib.hid (And.intro hr6 (Below.next H5.out.2.1 hB6)); clear hr6 hB6)
    | (go_at_call 36; (with_reducible refine (can_step HA.out H6.out.2 hk o hq).mono ?_); rintro e w7 ⟨rfl, hB7⟩; have H7 := Lib.hid (And.intro (row_below H6.out.1 hB7) (Below.next H6.out.2 hB7)); clear hB7))
  go_ret2
  exact ⟨v, o, rfl, HO.out, ownsRow_down H7.out.1 H5.out.2.1.size, H7.out.2⟩

set_option maxRecDepth 100000 in
theorem ask_bytes {q s : ByteArray} {p k : Nat} {w : World} (hA : AutoAt w p q k) (hk : k ≤ 3) (hq : q.size ≤ 255) (hs : IsL q.data.toList k (nums s)) (hf : ∀ o, o ∉ q.data.toList → (tellsT q.data.toList k (nums s) o).length < 300) :
    Calls Try.prog 42 #[.pointer (some ⟨p, 0, none⟩), .string s, .func (.func 43) #[.pointer (some ⟨p, 0, none⟩)] #[]] w (Told w q.data.toList k (nums s)) := by
  have hz : s.size ≤ 1000000000000 := by have := hs.1; rw [nums_length, ba_length] at this; omega
  have hh := has_any hA hk (by omega) hz
  rw [isS_iff.2 hs] at hh
  have HH := Lib.hid hh
  have HC : Hid (∀ W, Below w.heap.size w W → Calls Try.prog 43 #[.pointer (some ⟨p, 0, none⟩), .string s] W fun e w' => Told w q.data.toList k (nums s) e w') := Lib.hid fun W hb => (apart_any (hA.below hb) hk hq hs hf).mono fun e w' h => by
    obtain ⟨v, o, h1, h2, h3, h4⟩ := h
    exact ⟨v, o, h1, h2, ownsRow_down h3 hb.size, Below.next hb h4⟩
  clear hA hh hs hf hz
  go_enter Try.func42, Try.ntmps42
  go_wp2_with (first | (go_at_call 33; (with_reducible refine HH.out.mono ?_); rintro e w' ⟨rfl, HB⟩; replace HB := Lib.hid HB) | (go_at_call 43; (with_reducible refine (HC.out _ HB.out).mono ?_); rintro e w' ⟨v, o, rfl, hx⟩; have HD := Lib.hid hx; clear hx))
  go_ret2
  exact ⟨v, o, rfl, HD.out⟩

set_option maxRecDepth 100000 in
theorem ask_bytes_not {q s : ByteArray} {p k : Nat} {w : World} (hA : AutoAt w p q k) (hk : k ≤ 3) (hq : q.size ≤ 10000) (hz : s.size ≤ 1000000000000) (hs : ¬ IsL q.data.toList k (nums s)) :
    Calls Try.prog 42 #[.pointer (some ⟨p, 0, none⟩), .string s, .func (.func 43) #[.pointer (some ⟨p, 0, none⟩)] #[]] w fun e w' => e = .returned (.tuple #[.slice none 0 0, .bool false]) ∧ Below w.heap.size w w' := by
  have hh := has_any (s := s) hA hk (by omega) hz
  rw [show isS q k s = false by simpa using fun h => hs (isS_iff.1 h)] at hh
  have HH := Lib.hid hh
  clear hA hs hh
  go_enter Try.func42, Try.ntmps42
  go_wp2_with (go_at_call 33; (with_reducible refine HH.out.mono ?_); rintro e w' ⟨rfl, HB⟩; replace HB := Lib.hid HB)
  go_ret2
  exact ⟨rfl, HB.out⟩

set_option maxRecDepth 100000 in
theorem bytes_any {q s : ByteArray} {p k : Nat} {w : World} (hA : AutoAt w p q k) (hk : k ≤ 3) (hq : q.size ≤ 255) (hs : IsL q.data.toList k (nums s)) (hf : ∀ o, o ∉ q.data.toList → (tellsT q.data.toList k (nums s) o).length < 300) :
    Calls Try.prog 24 #[.pointer (some ⟨p, 0, none⟩), .string s] w (Told w q.data.toList k (nums s)) := by
  have HC := Lib.hid (ask_bytes hA hk hq hs hf)
  clear hA hs hf
  go_enter Try.func24, Try.ntmps24
  go_wp2_with (go_at_call 42; (with_reducible refine HC.out.mono ?_); rintro e w' ⟨v, o, rfl, hx⟩; have HD := Lib.hid hx; clear hx)
  go_ret2
  exact ⟨v, o, rfl, HD.out⟩

set_option maxRecDepth 100000 in
theorem bytes_not {q s : ByteArray} {p k : Nat} {w : World} (hA : AutoAt w p q k) (hk : k ≤ 3) (hq : q.size ≤ 10000) (hz : s.size ≤ 1000000000000) (hs : ¬ IsL q.data.toList k (nums s)) :
    Calls Try.prog 24 #[.pointer (some ⟨p, 0, none⟩), .string s] w fun e w' => e = .returned (.tuple #[.slice none 0 0, .bool false]) ∧ Below w.heap.size w w' := by
  have HC := Lib.hid (ask_bytes_not hA hk hq hz hs)
  clear hA hs
  go_enter Try.func24, Try.ntmps24
  go_wp2_with (go_at_call 42; (with_reducible refine HC.out.mono ?_); rintro e w' ⟨rfl, HB⟩; replace HB := Lib.hid HB)
  go_ret2
  exact ⟨rfl, HB.out⟩

/-! ### An automaton that is none -/
set_option maxRecDepth 100000 in
theorem nil_bytes (s : ByteArray) (w : World) : Calls Try.prog 24 #[.pointer none, .string s] w fun e w' => e = .returned (.tuple #[.slice none 0 0, .bool false]) ∧ Below w.heap.size w w' := by
  have HH := Lib.hid (has_nil s w)
  have HC : Hid (Calls Try.prog 42 #[.pointer none, .string s, .func (.func 43) #[.pointer none] #[]] w fun e w' => e = .returned (.tuple #[.slice none 0 0, .bool false]) ∧ Below w.heap.size w w') := Lib.hid (by
    go_enter Try.func42, Try.ntmps42
    go_wp2_with (go_at_call 33; (with_reducible refine HH.out.mono ?_); rintro e w' ⟨rfl, HB⟩; replace HB := Lib.hid HB)
    go_ret2
    exact ⟨rfl, HB.out⟩)
  go_enter Try.func24, Try.ntmps24
  go_wp2_with (go_at_call 42; (with_reducible refine HC.out.mono ?_); rintro e w' ⟨rfl, HB⟩; replace HB := Lib.hid HB)
  go_ret2
  exact ⟨rfl, HB.out⟩
set_option maxRecDepth 100000 in
theorem nil_dist (s : ByteArray) (w : World) : Calls Try.prog 21 #[.pointer none, .string s] w fun e w' => e = .returned (.tuple #[.int .i64 0, .bool false]) ∧ Below w.heap.size w w' := by
  have HH := Lib.hid (has_nil s w)
  have HC : Hid (Calls Try.prog 37 #[.pointer none, .string s, .func (.func 38) #[.pointer none] #[]] w fun e w' => e = .returned (.tuple #[.int .i64 0, .bool false]) ∧ Below w.heap.size w w') := Lib.hid (by
    go_enter Try.func37, Try.ntmps37
    go_wp2_with (go_at_call 33; (with_reducible refine HH.out.mono ?_); rintro e w' ⟨rfl, HB⟩; replace HB := Lib.hid HB)
    go_ret2
    exact ⟨rfl, HB.out⟩)
  go_enter Try.func21, Try.ntmps21
  go_wp2_with (go_at_call 37; (with_reducible refine HC.out.mono ?_); rintro e w' ⟨rfl, HB⟩; replace HB := Lib.hid HB)
  go_ret2
  exact ⟨rfl, HB.out⟩
set_option maxRecDepth 100000 in
theorem nil_can (s : ByteArray) (w : World) : Calls Try.prog 23 #[.pointer none, .string s] w fun e w' => e = .returned (.bool false) ∧ Below w.heap.size w w' := by
  have HH := Lib.hid (has_nil s w)
  have HC : Hid (Calls Try.prog 37 #[.pointer none, .string s, .func (.func 41) #[.pointer none] #[]] w fun e w' => e = .returned (.tuple #[.int .i64 0, .bool false]) ∧ Below w.heap.size w w') := Lib.hid (by
    go_enter Try.func37, Try.ntmps37
    go_wp2_with (go_at_call 33; (with_reducible refine HH.out.mono ?_); rintro e w' ⟨rfl, HB⟩; replace HB := Lib.hid HB)
    go_ret2
    exact ⟨rfl, HB.out⟩)
  go_enter Try.func23, Try.ntmps23
  go_wp2_with (go_at_call 37; (with_reducible refine HC.out.mono ?_); rintro e w' ⟨rfl, HB⟩; replace HB := Lib.hid HB)
  go_ret
  exact ⟨rfl, HB.out⟩
set_option maxRecDepth 100000 in
theorem nil_step (s : ByteArray) (c : UInt8) (w : World) : Calls Try.prog 16 #[.pointer none, .string s, .int .u8 (c.toNat : Int)] w fun e w' => e = .returned (.string ⟨#[]⟩) ∧ Below w.heap.size w w' := by
  have HH := Lib.hid (has_nil s w)
  go_enter Try.func16, Try.ntmps16
  go_wp2_with (go_at_call 33; (with_reducible refine HH.out.mono ?_); rintro e w' ⟨rfl, HB⟩; replace HB := Lib.hid HB)
  go_ret
  exact ⟨rfl, HB.out⟩
set_option maxRecDepth 100000 in
theorem nil_read (s : ByteArray) (v : Value) (w : World) : Calls Try.prog 18 #[.pointer none, .string s, v] w fun e w' => e = .returned (.string ⟨#[]⟩) ∧ Below w.heap.size w w' := by
  have HH := Lib.hid (has_nil s w)
  go_enter Try.func18, Try.ntmps18
  go_wp2_with (go_at_call 33; (with_reducible refine HH.out.mono ?_); rintro e w' ⟨rfl, HB⟩; replace HB := Lib.hid HB)
  go_ret
  exact ⟨rfl, HB.out⟩
set_option maxRecDepth 100000 in
theorem nil_start (w : World) : Calls Try.prog 13 #[.pointer none] w fun e w' => e = .returned (.string ⟨#[]⟩) ∧ Below w.heap.size w w' := by
  have HB := Lib.hid (Below.refl w.heap.size w)
  go_enter Try.func13, Try.ntmps13
  go_wp2
  go_ret
  exact ⟨rfl, HB.out⟩
end Go.Proofs.Ythgdanbkngnckaa
namespace Go.Proofs.Ythgdanbkngnckaa
open Go.RowKit Go.Shelf Said

theorem u8s_enc (L : List UInt8) : L.map enc8 = u8s (L.map UInt8.toNat) := by
  unfold u8s
  rw [List.map_map]
  rfl
theorem bin_map (L : List UInt8) : bin (L.map UInt8.toNat) = ⟨L.toArray⟩ := by
  apply ba_ext
  show (L.map UInt8.toNat).map UInt8.ofNat = L
  rw [List.map_map]
  conv => rhs; rw [← List.map_id L]
  apply List.map_congr_left
  intro x _
  simp
/-- A row of bytes as a string, whatever its length. -/
theorem row_str {w : World} {base : Nat} {v : Value} {L : List UInt8} (h : w.ownsRow base 5 1 v L.length (L.map enc8)) (T : TypeId) (hT : Try.prog.underlying T = some .string) : (convert 38 T v).run Try.prog w = .ok (.string ⟨L.toArray⟩) w := by
  by_cases h0 : L.length = 0
  · have e := List.eq_nil_of_length_eq_zero h0
    subst e
    rcases h.2 with ⟨rfl, _⟩ | ⟨g, cap, cur, rfl, _⟩
    · exact run_convert_bytes_nil (P := Try.prog) w 38 5 Try.underlying38 Try.underlying5 0 0 T hT
    · exact run_convert_bytes_arg (P := Try.prog) w 38 5 Try.underlying38 Try.underlying5 g 0 0 cap [] rfl (fun i hi => by omega) T hT
  · rw [u8s_enc] at h
    have hb := byts_of_owns (l := L.map UInt8.toNat) (by rw [List.length_map]; exact h)
    have := byts_str hb (by rw [List.length_map]; omega) (fun i => by
      by_cases hi : i < L.length
      · simp only [List.getD, List.getElem?_map, List.getElem?_eq_getElem hi, Option.map_some, Option.getD_some]
        exact UInt8.toNat_lt _
      · simp [List.getD, hi]) T hT
    rw [bin_map] at this
    exact this

theorem told_lit {w w' : World} {q : List UInt8} {k : Nat} {r : List Nat} {e : Ending} {L : List UInt8} {b : Bool} {z : UInt8} (h : Told w q k r e w') (h0 : z ∉ q) (hL : tellsT q k r z = L) (hb : decide (minT (stepL q k r z) ≤ k) = b) : ∃ v, e = .returned (.tuple #[v, .bool b]) ∧ w'.ownsRow w.heap.size 5 1 v L.length (L.map enc8) ∧ Below w.heap.size w w' := by
  obtain ⟨v, o, h1, h2, h3, h4⟩ := h
  rw [tellsT_foreign q k r h2 h0, hL] at h3
  rw [step_foreign h2 h0, hb] at h1
  exact ⟨v, h1, h3, h4⟩

theorem strs_litL (l : List ByteArray) (W : World) : Strs (W.alloc (.cells (strs l).toArray 9)) (.slice (some ⟨W.heap.size, 0, none⟩) l.length l.length) l := by
  refine ⟨_, _, rfl, fun i hi => ⟨_, _, rfl, ?_⟩⟩
  rw [World.cell?_alloc_at (hn := rfl)]
  simp [strs, hi, List.getD]
theorem below_strs {w W : World} (l : List ByteArray) (h : Below w.heap.size w W) : Below w.heap.size w (W.alloc (.cells (strs l).toArray 9)) := h.alloc h.size _

/-- Read at texts that have just been written out. -/
theorem read_lit {w W : World} {p k : Nat} {q s S : ByteArray} (hA : AutoAt w p q k) (hb : Below w.heap.size w W) (hk : k ≤ 3) (hq : q.size ≤ 10000) (l : List ByteArray) (hs : IsL q.data.toList k (nums s)) (hz : l.length ≤ 1000) (hl : ∀ t ∈ l, t.size ≤ 1000000) (hS : bin (readL q.data.toList k (nums s) (allB l)) = S) :
    Calls Try.prog 18 #[.pointer (some ⟨p, 0, none⟩), .string s, .slice (some ⟨W.heap.size, 0, none⟩) l.length l.length] (W.alloc (.cells (strs l).toArray 9)) fun e w' => e = .returned (.string S) ∧ Below W.heap.size W w' := by
  have hb1 := below_strs l hb
  refine (read_any (hA.below hb1) hk hq hs (strs_litL l W) hz hl).mono ?_
  rintro e w' ⟨rfl, hB⟩
  exact ⟨by rw [hS], Below.next (below_strs l (Below.refl _ W)) hB⟩
theorem dist_lit {w W : World} {p k n : Nat} {q s : ByteArray} {b : Bool} (hA : AutoAt w p q k) (hb : Below w.heap.size w W) (hk : k ≤ 3) (hq : q.size ≤ 10000) (hz : s.size ≤ 1000000000000) (hv : askV q k s (wholeL (nums s)) = .tuple #[.int .i64 (n : Int), .bool b]) :
    Calls Try.prog 21 #[.pointer (some ⟨p, 0, none⟩), .string s] W fun e w' => e = .returned (.tuple #[.int .i64 (n : Int), .bool b]) ∧ Below W.heap.size W w' :=
  (dist_lev (hA.below hb) hk hq hz).mono fun e w' h => ⟨h.1.trans (by rw [hv]), h.2⟩
theorem can_lit {w W : World} {p k : Nat} {q s : ByteArray} {b : Bool} (hA : AutoAt w p q k) (hb : Below w.heap.size w W) (hk : k ≤ 3) (hq : q.size ≤ 10000) (hz : s.size ≤ 1000000000000) (hv : canB q k s = b) :
    Calls Try.prog 23 #[.pointer (some ⟨p, 0, none⟩), .string s] W fun e w' => e = .returned (.bool b) ∧ Below W.heap.size W w' :=
  (Can_lev (hA.below hb) hk hq hz).mono fun e w' h => ⟨h.1.trans (by rw [hv]), h.2⟩
theorem step_lit {w W : World} {p k : Nat} {q s S : ByteArray} (c : UInt8) (hA : AutoAt w p q k) (hb : Below w.heap.size w W) (hk : k ≤ 3) (hq : q.size ≤ 10000) (hz : s.size ≤ 1000000000000) (hv : StepS q k s c = S) :
    Calls Try.prog 16 #[.pointer (some ⟨p, 0, none⟩), .string s, .int .u8 (c.toNat : Int)] W fun e w' => e = .returned (.string S) ∧ Below W.heap.size W w' :=
  (Step_lev (hA.below hb) hk c hq hz).mono fun e w' h => ⟨h.1.trans (by rw [hv]), h.2⟩
theorem start_lit {w W : World} {p k : Nat} {q S : ByteArray} (hA : AutoAt w p q k) (hb : Below w.heap.size w W) (hk : k ≤ 3) (hq : q.size ≤ 255) (hv : bin (startL q.data.toList k) = S) :
    Calls Try.prog 13 #[.pointer (some ⟨p, 0, none⟩)] W fun e w' => e = .returned (.string S) ∧ Below W.heap.size W w' :=
  (start_any (hA.below hb) hk hq).mono fun e w' h => ⟨h.1.trans (by rw [hv]), h.2⟩
theorem bytes_lit {w W : World} {p k : Nat} {q s : ByteArray} {L : List UInt8} {b : Bool} {z : UInt8} (hA : AutoAt w p q k) (hb : Below w.heap.size w W) (hk : k ≤ 3) (hq : q.size ≤ 255) (hs : IsL q.data.toList k (nums s)) (h0 : z ∉ q.data.toList) (hL : tellsT q.data.toList k (nums s) z = L) (hc : decide (minT (stepL q.data.toList k (nums s) z) ≤ k) = b) (hf : L.length < 300) :
    Calls Try.prog 24 #[.pointer (some ⟨p, 0, none⟩), .string s] W fun e w' => ∃ v, e = .returned (.tuple #[v, .bool b]) ∧ w'.ownsRow W.heap.size 5 1 v L.length (L.map enc8) ∧ Below W.heap.size W w' :=
  (bytes_any (hA.below hb) hk hq hs fun o ho => by rw [tellsT_foreign _ _ _ ho h0, hL]; exact hf).mono fun e w' h => by
    obtain ⟨v, h1, h2, h3⟩ := told_lit h h0 hL hc
    exact ⟨v, h1, h2, h3⟩
theorem lit_is {q : List UInt8} {k : Nat} {r : List Nat} (h : r.length = q.length + 1 ∧ maxT r ≤ k + 1) : IsL q k r := ⟨h.1, (maxT_le r (k + 1)).1 h.2⟩

/-! ### The examples' states -/
theorem ex_start : bin (startL [97, 98] 1) = ⟨#[0, 1, 2]⟩ := by decide +kernel
theorem ex_is : IsL [97, 98] 1 (nums ⟨#[0, 1, 2]⟩) := lit_is (by decide +kernel)
theorem ex_a : StepS ⟨#[97, 98]⟩ 1 ⟨#[0, 1, 2]⟩ 97 = ⟨#[1, 0, 1]⟩ := by decide +kernel
theorem ex_b : StepS ⟨#[97, 98]⟩ 1 ⟨#[0, 1, 2]⟩ 98 = ⟨#[1, 1, 1]⟩ := by decide +kernel
theorem ex_x : StepS ⟨#[97, 98]⟩ 1 ⟨#[0, 1, 2]⟩ 120 = ⟨#[1, 1, 2]⟩ := by decide +kernel
theorem ex_ab : bin (readL [97, 98] 1 (nums ⟨#[0, 1, 2]⟩) (allB [⟨#[97]⟩, ⟨#[98]⟩])) = ⟨#[2, 1, 0]⟩ := by decide +kernel
theorem ex_rx : bin (readL [97, 98] 1 (nums ⟨#[0, 1, 2]⟩) (allB [⟨#[120]⟩])) = ⟨#[1, 1, 2]⟩ := by decide +kernel
theorem ex_xy : bin (readL [97, 98] 1 (nums ⟨#[0, 1, 2]⟩) (allB [⟨#[120]⟩, ⟨#[121]⟩])) = ⟨#[2, 2, 2]⟩ := by decide +kernel
theorem ex_tells : tellsT [97, 98] 1 (nums ⟨#[0, 1, 2]⟩) 0 = [97, 98] := by decide +kernel
theorem ex_more : decide (minT (stepL [97, 98] 1 (nums ⟨#[0, 1, 2]⟩) 0) ≤ 1) = true := by decide +kernel
theorem ex_d0 : askV ⟨#[97, 98]⟩ 1 ⟨#[2, 1, 0]⟩ (wholeL (nums ⟨#[2, 1, 0]⟩)) = .tuple #[.int .i64 ((0 : Nat) : Int), .bool true] := by kernel_rfl
theorem ex_d1 : askV ⟨#[97, 98]⟩ 1 ⟨#[1, 1, 2]⟩ (wholeL (nums ⟨#[1, 1, 2]⟩)) = .tuple #[.int .i64 ((0 : Nat) : Int), .bool false] := by kernel_rfl
theorem ex_d2 : askV ⟨#[97, 98]⟩ 1 ⟨#[2, 2, 2]⟩ (wholeL (nums ⟨#[2, 2, 2]⟩)) = .tuple #[.int .i64 ((0 : Nat) : Int), .bool false] := by kernel_rfl
theorem ex_c1 : canB ⟨#[97, 98]⟩ 1 ⟨#[1, 1, 2]⟩ = true := by decide +kernel
theorem ex_c2 : canB ⟨#[97, 98]⟩ 1 ⟨#[2, 2, 2]⟩ = false := by decide +kernel

set_option maxHeartbeats 4000000 in
set_option maxRecDepth 100000 in
theorem works_any (w : World) : Calls Try.prog 20 #[] w fun e w' => e = .returned (.bool true) ∧ Below w.heap.size w w' := by
  have QN : Hid (Calls Try.prog 10 #[.string ⟨#[97, 98]⟩, .int .i64 1] w fun e w' => e = .returned (.pointer (some ⟨w.heap.size, 0, none⟩)) ∧ AutoAt w' w.heap.size ⟨#[97, 98]⟩ 1 ∧ Below w.heap.size w w' ∧ w.heap.size < w'.heap.size) := Lib.hid (new_any ⟨#[97, 98]⟩ 1 w (by decide) (by decide))
  go_enter Try.func20, Try.ntmps20
  go_upto_region 2 with (go_at_call 10; (with_reducible refine QN.out.mono ?_); rintro e w1 ⟨rfl, hA1, hB1, hz1⟩; have HA := Lib.hid hA1; have HW := Lib.hid hB1; clear hA1 hB1 hz1)
  have HX : Hid (Below w1.heap.size w1 w1) := Lib.hid (Below.refl _ _)
  have QS : Hid (∀ W, Below w1.heap.size w1 W → Calls Try.prog 13 #[.pointer (some ⟨w.heap.size, 0, none⟩)] W fun e w' => e = .returned (.string ⟨#[0, 1, 2]⟩) ∧ Below W.heap.size W w') := Lib.hid fun W hb => start_lit HA.out hb (by decide) (by decide) ex_start
  have R1 : Hid (∀ W, Below w1.heap.size w1 W → Calls Try.prog 18 #[.pointer (some ⟨w.heap.size, 0, none⟩), .string ⟨#[0, 1, 2]⟩, .slice (some ⟨W.heap.size, 0, none⟩) 2 2] (W.alloc (.cells #[.string ⟨#[97]⟩, .string ⟨#[98]⟩] 9)) fun e w' => e = .returned (.string ⟨#[2, 1, 0]⟩) ∧ Below W.heap.size W w') := Lib.hid fun W hb => read_lit HA.out hb (by decide) (by decide) [⟨#[97]⟩, ⟨#[98]⟩] ex_is (by decide) (by decide) ex_ab
  have R2 : Hid (∀ W, Below w1.heap.size w1 W → Calls Try.prog 18 #[.pointer (some ⟨w.heap.size, 0, none⟩), .string ⟨#[0, 1, 2]⟩, .slice (some ⟨W.heap.size, 0, none⟩) 1 1] (W.alloc (.cells #[.string ⟨#[120]⟩] 9)) fun e w' => e = .returned (.string ⟨#[1, 1, 2]⟩) ∧ Below W.heap.size W w') := Lib.hid fun W hb => read_lit HA.out hb (by decide) (by decide) [⟨#[120]⟩] ex_is (by decide) (by decide) ex_rx
  have R3 : Hid (∀ W, Below w1.heap.size w1 W → Calls Try.prog 18 #[.pointer (some ⟨w.heap.size, 0, none⟩), .string ⟨#[0, 1, 2]⟩, .slice (some ⟨W.heap.size, 0, none⟩) 2 2] (W.alloc (.cells #[.string ⟨#[120]⟩, .string ⟨#[121]⟩] 9)) fun e w' => e = .returned (.string ⟨#[2, 2, 2]⟩) ∧ Below W.heap.size W w') := Lib.hid fun W hb => read_lit HA.out hb (by decide) (by decide) [⟨#[120]⟩, ⟨#[121]⟩] ex_is (by decide) (by decide) ex_xy
  have C1 : Hid (∀ W, Below w1.heap.size w1 W → Calls Try.prog 23 #[.pointer (some ⟨w.heap.size, 0, none⟩), .string ⟨#[1, 1, 2]⟩] W fun e w' => e = .returned (.bool true) ∧ Below W.heap.size W w') := Lib.hid fun W hb => can_lit HA.out hb (by decide) (by decide) (by decide) ex_c1
  have C2 : Hid (∀ W, Below w1.heap.size w1 W → Calls Try.prog 23 #[.pointer (some ⟨w.heap.size, 0, none⟩), .string ⟨#[2, 2, 2]⟩] W fun e w' => e = .returned (.bool false) ∧ Below W.heap.size W w') := Lib.hid fun W hb => can_lit HA.out hb (by decide) (by decide) (by decide) ex_c2
  have D0 : Hid (∀ W, Below w1.heap.size w1 W → Calls Try.prog 21 #[.pointer (some ⟨w.heap.size, 0, none⟩), .string ⟨#[2, 1, 0]⟩] W fun e w' => e = .returned (.tuple #[.int .i64 0, .bool true]) ∧ Below W.heap.size W w') := Lib.hid fun W hb => dist_lit (n := 0) HA.out hb (by decide) (by decide) (by decide) ex_d0
  have D1 : Hid (∀ W, Below w1.heap.size w1 W → Calls Try.prog 21 #[.pointer (some ⟨w.heap.size, 0, none⟩), .string ⟨#[1, 1, 2]⟩] W fun e w' => e = .returned (.tuple #[.int .i64 0, .bool false]) ∧ Below W.heap.size W w') := Lib.hid fun W hb => dist_lit (n := 0) HA.out hb (by decide) (by decide) (by decide) ex_d1
  have D2 : Hid (∀ W, Below w1.heap.size w1 W → Calls Try.prog 21 #[.pointer (some ⟨w.heap.size, 0, none⟩), .string ⟨#[2, 2, 2]⟩] W fun e w' => e = .returned (.tuple #[.int .i64 0, .bool false]) ∧ Below W.heap.size W w') := Lib.hid fun W hb => dist_lit (n := 0) HA.out hb (by decide) (by decide) (by decide) ex_d2
  have S1 : Hid (∀ W, Below w1.heap.size w1 W → Calls Try.prog 16 #[.pointer (some ⟨w.heap.size, 0, none⟩), .string ⟨#[0, 1, 2]⟩, .int .u8 97] W fun e w' => e = .returned (.string ⟨#[1, 0, 1]⟩) ∧ Below W.heap.size W w') := Lib.hid fun W hb => step_lit 97 HA.out hb (by decide) (by decide) (by decide) ex_a
  have S2 : Hid (∀ W, Below w1.heap.size w1 W → Calls Try.prog 16 #[.pointer (some ⟨w.heap.size, 0, none⟩), .string ⟨#[0, 1, 2]⟩, .int .u8 98] W fun e w' => e = .returned (.string ⟨#[1, 1, 1]⟩) ∧ Below W.heap.size W w') := Lib.hid fun W hb => step_lit 98 HA.out hb (by decide) (by decide) (by decide) ex_b
  have S3 : Hid (∀ W, Below w1.heap.size w1 W → Calls Try.prog 16 #[.pointer (some ⟨w.heap.size, 0, none⟩), .string ⟨#[0, 1, 2]⟩, .int .u8 120] W fun e w' => e = .returned (.string ⟨#[1, 1, 2]⟩) ∧ Below W.heap.size W w') := Lib.hid fun W hb => step_lit 120 HA.out hb (by decide) (by decide) (by decide) ex_x
  have QB : Hid (∀ W, Below w1.heap.size w1 W → Calls Try.prog 24 #[.pointer (some ⟨w.heap.size, 0, none⟩), .string ⟨#[0, 1, 2]⟩] W fun e w' => ∃ v, e = .returned (.tuple #[v, .bool true]) ∧ w'.ownsRow W.heap.size 5 1 v [(97 : UInt8), 98].length ([(97 : UInt8), 98].map enc8) ∧ Below W.heap.size W w') := Lib.hid fun W hb => bytes_lit (z := 0) HA.out hb (by decide) (by decide) ex_is (by decide) ex_tells ex_more (by decide)
  go_wp2_with (first
    | (go_at_call 13; (with_reducible refine (QS.out _ HX.out).mono ?_); rintro e w' ⟨rfl, hB⟩; replace HX := Lib.hid (Below.next HX.out hB); clear hB)
    | (go_at_call 18; (with_reducible refine (R1.out _ HX.out).mono ?_); rintro e w' ⟨rfl, hB⟩; replace HX := Lib.hid (Below.next HX.out hB); clear hB)
    | (go_at_call 18; (with_reducible refine (R2.out _ HX.out).mono ?_); rintro e w' ⟨rfl, hB⟩; replace HX := Lib.hid (Below.next HX.out hB); clear hB)
    | (go_at_call 18; (with_reducible refine (R3.out _ HX.out).mono ?_); rintro e w' ⟨rfl, hB⟩; replace HX := Lib.hid (Below.next HX.out hB); clear hB)
    | (go_at_call 21; (with_reducible refine (D0.out _ HX.out).mono ?_); rintro e w' ⟨rfl, hB⟩; replace HX := Lib.hid (Below.next HX.out hB); clear hB)
    | (go_at_call 21; (with_reducible refine (D1.out _ HX.out).mono ?_); rintro e w' ⟨rfl, hB⟩; replace HX := Lib.hid (Below.next HX.out hB); clear hB)
    | (go_at_call 21; (with_reducible refine (D2.out _ HX.out).mono ?_); rintro e w' ⟨rfl, hB⟩; replace HX := Lib.hid (Below.next HX.out hB); clear hB)
    | (go_at_call 24; (with_reducible refine (QB.out _ HX.out).mono ?_); rintro e wB ⟨v, rfl, hr, hB⟩; replace HX := Lib.hid (Below.next HX.out hB); have HR : Hid (∀ W, Below wB.heap.size wB W → (convert 38 9 v).run Try.prog W = .ok (.string ⟨#[97, 98]⟩) W) := Lib.hid (fun W hb => row_str (row_below hr hb) _ Try.underlying9); have HY := Lib.hid (Below.refl wB.heap.size wB); clear hr hB)
    | (go_at_call 16; (with_reducible refine (S1.out _ HX.out).mono ?_); rintro e w' ⟨rfl, hB⟩; replace HX := Lib.hid (Below.next HX.out hB); replace HY := Lib.hid (Below.next HY.out hB); clear hB; have hcv := HR.out _ HY.out)
    | (go_at_call 16; (with_reducible refine (S2.out _ HX.out).mono ?_); rintro e w' ⟨rfl, hB⟩; replace HX := Lib.hid (Below.next HX.out hB); replace HY := Lib.hid (Below.next HY.out hB); clear hB; have hcv := HR.out _ HY.out)
    | (go_at_call 16; (with_reducible refine (S3.out _ HX.out).mono ?_); rintro e w' ⟨rfl, hB⟩; replace HX := Lib.hid (Below.next HX.out hB); replace HY := Lib.hid (Below.next HY.out hB); clear hB; have hcv := HR.out _ HY.out)
    | (go_at_call 23; (with_reducible refine (C1.out _ HX.out).mono ?_); rintro e w' ⟨rfl, hB⟩; replace HX := Lib.hid (Below.next HX.out hB); replace HY := Lib.hid (Below.next HY.out hB); clear hB; have hcv := HR.out _ HY.out)
    | (go_at_call 23; (with_reducible refine (C2.out _ HX.out).mono ?_); rintro e w' ⟨rfl, hB⟩; replace HX := Lib.hid (Below.next HX.out hB); replace HY := Lib.hid (Below.next HY.out hB); clear hB; have hcv := HR.out _ HY.out))
  go_ret
  exact ⟨rfl, Below.next HW.out HX.out⟩
end Go.Proofs.Ythgdanbkngnckaa
namespace Go.Proofs.Ythgdanbkngnckaa
open Go.RowKit Go.Shelf Said

def fewT (s : ByteArray) (m : Nat) : ByteArray := s.extract 0 (min s.size m)
theorem fewT_size (s : ByteArray) (m : Nat) : (fewT s m).size = min s.size m := by
  rw [← ba_length, fewT, ba_extract, List.drop_zero, Nat.sub_zero, List.length_take, ba_length]
  omega

set_option maxRecDepth 100000 in
theorem few_any (s : ByteArray) (m : Nat) (hm : m ≤ 1000) (w : World) : Calls Try.prog 9 #[.string s, .int .i64 (m : Int)] w fun e w' => e = .returned (.string (fewT s m)) ∧ w = w' := by
  unfold fewT
  have e : (min (s.size : Int) (m : Int)).toNat = min s.size m := by omega
  have he := Lib.hid e
  clear e
  go_enter Try.func9, Try.ntmps9
  go_wp2
  go_ret
  refine ⟨?_, rfl⟩
  rw [← he.out]
  rfl

set_option maxRecDepth 100000 in
theorem bound_any (K : Int) (hK : -128 ≤ K ∧ K ≤ 127) : ∃ k : Nat, k ≤ 3 ∧ ∀ (Q W : ByteArray) (w : World), Calls Try.prog 12 #[.agg #[.string Q, .string W, .int .i8 K]] w fun e w' => e = .returned (.int .i64 (k : Int)) ∧ Below w.heap.size w w' := by
  obtain ⟨t, ht⟩ : ∃ t, K.tmod 4 = t := ⟨_, rfl⟩
  have ht1 : -3 ≤ t ∧ t ≤ 3 := by
    have key : ∀ n : Fin 256, -3 ≤ ((n.val : Int) - 128).tmod 4 ∧ ((n.val : Int) - 128).tmod 4 ≤ 3 := by decide +kernel
    have h := key ⟨(K + 128).toNat, by omega⟩
    rw [show (((⟨(K + 128).toNat, by omega⟩ : Fin 256).val : Int) - 128) = K by show (((K + 128).toNat : Nat) : Int) - 128 = K; omega, ht] at h
    exact h
  obtain ⟨u, hu⟩ : ∃ u : Nat, (t + 4).tmod 4 = (u : Int) ∧ u ≤ 3 := by
    rcases (show t = -3 ∨ t = -2 ∨ t = -1 ∨ t = 0 ∨ t = 1 ∨ t = 2 ∨ t = 3 by omega) with rfl | rfl | rfl | rfl | rfl | rfl | rfl
    · exact ⟨1, rfl, by omega⟩
    · exact ⟨2, rfl, by omega⟩
    · exact ⟨3, rfl, by omega⟩
    · exact ⟨0, rfl, by omega⟩
    · exact ⟨1, rfl, by omega⟩
    · exact ⟨2, rfl, by omega⟩
    · exact ⟨3, rfl, by omega⟩
  refine ⟨u, hu.2, fun Q W w => ?_⟩
  have hu := hu.1
  have HB := Lib.hid (below_alloc w (.cells #[.string Q, .string W, .int .i8 K] 24))
  go_enter Try.func12, Try.ntmps12
  go_wp2
  go_ret
  exact ⟨rfl, HB.out⟩

/-- What stands of a text, asked as Ask does. -/
def askA (Q W : ByteArray) (K : Int) : Value := .agg #[.string Q, .string W, .int .i8 K]

/-- Dist of a state. -/
theorem dist_st {w W : World} {p k : Nat} {q : ByteArray} {r : List Nat} (hA : AutoAt w p q k) (hb : Below w.heap.size w W) (hk : k ≤ 3) (hq : q.size ≤ 300) (hr : IsL q.data.toList k r) :
    Calls Try.prog 21 #[.pointer (some ⟨p, 0, none⟩), .string (bin r)] W fun e w' => e = .returned (.tuple #[.int .i64 ((if wholeL r ≤ k then wholeL r else 0 : Nat) : Int), .bool (decide (wholeL r ≤ k))]) ∧ Below W.heap.size W w' := by
  have hn := nums_of hr hk
  have hz : (bin r).size ≤ 1000000000000 := by rw [bin_size, hr.1, ba_length]; omega
  have h := dist_lev (s := bin r) (hA.below hb) hk (by omega) hz
  rw [askV_yes (by rw [hn]; exact hr), hn] at h
  exact h
theorem can_st {w W : World} {p k : Nat} {q : ByteArray} {r : List Nat} (hA : AutoAt w p q k) (hb : Below w.heap.size w W) (hk : k ≤ 3) (hq : q.size ≤ 300) (hr : IsL q.data.toList k r) :
    Calls Try.prog 23 #[.pointer (some ⟨p, 0, none⟩), .string (bin r)] W fun e w' => e = .returned (.bool (decide (minT r ≤ k))) ∧ Below W.heap.size W w' := by
  have hn := nums_of hr hk
  have hz : (bin r).size ≤ 1000000000000 := by rw [bin_size, hr.1, ba_length]; omega
  have h := Can_lev (s := bin r) (hA.below hb) hk (by omega) hz
  rw [canB, isS_iff.2 (by rw [hn]; exact hr), hn] at h
  exact h
theorem step_st {w W : World} {p k : Nat} {q : ByteArray} {r : List Nat} (c : UInt8) (hA : AutoAt w p q k) (hb : Below w.heap.size w W) (hk : k ≤ 3) (hq : q.size ≤ 300) (hr : IsL q.data.toList k r) :
    Calls Try.prog 16 #[.pointer (some ⟨p, 0, none⟩), .string (bin r), .int .u8 (c.toNat : Int)] W fun e w' => e = .returned (.string (bin (stepL q.data.toList k r c))) ∧ Below W.heap.size W w' := by
  have hn := nums_of hr hk
  have hz : (bin r).size ≤ 1000000000000 := by rw [bin_size, hr.1, ba_length]; omega
  have h := Step_lev (s := bin r) (hA.below hb) hk c (by omega) hz
  rw [StepS, isS_iff.2 (by rw [hn]; exact hr), hn] at h
  exact h
theorem start_st {w W : World} {p k : Nat} {q : ByteArray} (hA : AutoAt w p q k) (hb : Below w.heap.size w W) (hk : k ≤ 3) (hq : q.size ≤ 255) :
    Calls Try.prog 13 #[.pointer (some ⟨p, 0, none⟩)] W fun e w' => e = .returned (.string (bin (startL q.data.toList k))) ∧ Below W.heap.size W w' := start_any (hA.below hb) hk hq
/-- Read of one text that has just been written out. -/
theorem read_one {w W : World} {p k : Nat} {q t : ByteArray} {r : List Nat} (hA : AutoAt w p q k) (hb : Below w.heap.size w W) (hk : k ≤ 3) (hq : q.size ≤ 300) (hr : IsL q.data.toList k r) (ht : t.size ≤ 1000000) :
    Calls Try.prog 18 #[.pointer (some ⟨p, 0, none⟩), .string (bin r), .slice (some ⟨W.heap.size, 0, none⟩) 1 1] (W.alloc (.cells #[.string t] 9)) fun e w' => e = .returned (.string (bin (readL q.data.toList k r t.data.toList))) ∧ Below W.heap.size W w' := by
  have hn := nums_of hr hk
  have h := read_lit (s := bin r) hA hb hk (by omega) [t] (by rw [hn]; exact hr) (by simp) (by simpa using ht) rfl
  rw [hn, show allB [t] = t.data.toList by simp [allB]] at h
  exact h
theorem read_two {w W : World} {p k : Nat} {q t u : ByteArray} {r : List Nat} (hA : AutoAt w p q k) (hb : Below w.heap.size w W) (hk : k ≤ 3) (hq : q.size ≤ 300) (hr : IsL q.data.toList k r) (ht : t.size ≤ 1000000) (hu : u.size ≤ 1000000) :
    Calls Try.prog 18 #[.pointer (some ⟨p, 0, none⟩), .string (bin r), .slice (some ⟨W.heap.size, 0, none⟩) 2 2] (W.alloc (.cells #[.string t, .string u] 9)) fun e w' => e = .returned (.string (bin (readL q.data.toList k r (t.data.toList ++ u.data.toList)))) ∧ Below W.heap.size W w' := by
  have hn := nums_of hr hk
  have h := read_lit (s := bin r) hA hb hk (by omega) [t, u] (by rw [hn]; exact hr) (by simp) (by simp; exact ⟨ht, hu⟩) rfl
  rw [hn, show allB [t, u] = t.data.toList ++ u.data.toList by simp [allB]] at h
  exact h
end Go.Proofs.Ythgdanbkngnckaa
namespace Go.Proofs.Ythgdanbkngnckaa
open Go.RowKit Go.Shelf Said

/-- The document's automaton as a value. -/
def refA (q : ByteArray) (k : Nat) : Value := .agg #[.string q, .int .i64 (k : Int)]

theorem capL_take (k : Nat) (l : List Nat) (j : Nat) (h : j < l.length) : capL k (l.take (j + 1)) = capL k (l.take j) ++ [cap k (l.getD j 0)] := by
  unfold capL
  rw [List.take_succ_eq_append_getElem h, List.map_append]
  simp [List.getD, h]

theorem wpList_append_u8 {w : World} {ops : Array Oper} {rest : List Oper} {o : Oper} {a : Act} {Q : Exit → Act → World → Prop} (hgd : o.guard = none) (s x : Operand)
    (hop : o.op = Op.call { callee := Callee.builtin Builtin.append, args := #[s, x], argTypes := #[38, 38] }) (ht : o.type = 38) (base : Nat) (v : Value) (n : Nat) (fs : List Value) (ad : Addr) (c : Nat) (b : Int)
    (hs : a.eval s = v) (hx : a.eval x = .slice (some ad) 1 c) (hc : w.cell? ad = some (.int .u8 b)) (hv : w.ownsRow base 5 1 v n fs) (hlen : n ≤ 100000000) (hbw : base ≤ w.heap.size)
    (h : ∀ v' w', w'.ownsRow base 5 1 v' (n + 1) (fs ++ [.int .u8 b]) → w.grownBy w' v.ownBlock → (v'.ownBlock = v.ownBlock ∨ v'.ownBlock = some w.heap.size) → wpList Try.prog ops Q rest (a.put o.dst v') w') : wpList Try.prog ops Q (o :: rest) a w := by
  obtain ⟨i0, hi, hz0, hz1, hz2⟩ := info_parts i5
  obtain ⟨v', w1, h1, h2, h3, _, h5⟩ := run_append_own_at (P := Try.prog) w base 38 38 5 i0 _ 1 1 Try.underlying38 hi hz0 hz1 hz2 rfl (by decide) v n fs hv ad 1 c [.int .u8 b] rfl
    (by
      intro j u hj
      match j, hj with
      | 0, hj => simp at hj; subst hj; exact hc) (by simp [Value.oneCell']) (by unfold maxLen; omega) (by omega) hbw
  refine wpList_plain hgd fun _ hK => ?_
  unfold Oper.wp execOp
  simp only [hop, ht, resolve, invoke, builtin, Sem.run_bind, Sem.run_pure, Result.andThen_ok, List.map_toArray, List.map_cons, List.map_nil, hs, hx, h1]
  exact hK _ _ (h v' w1 h2 h3 h5)
theorem wpList_append_i64 {w : World} {ops : Array Oper} {rest : List Oper} {o : Oper} {a : Act} {Q : Exit → Act → World → Prop} (hgd : o.guard = none) (s x : Operand)
    (hop : o.op = Op.call { callee := Callee.builtin Builtin.append, args := #[s, x], argTypes := #[57, 57] }) (ht : o.type = 57) (base : Nat) (v : Value) (n : Nat) (fs : List Value) (ad : Addr) (c : Nat) (b : Int)
    (hs : a.eval s = v) (hx : a.eval x = .slice (some ad) 1 c) (hc : w.cell? ad = some (.int .i64 b)) (hv : w.ownsRow base 3 1 v n fs) (hlen : n ≤ 100000000) (hbw : base ≤ w.heap.size)
    (h : ∀ v' w', w'.ownsRow base 3 1 v' (n + 1) (fs ++ [.int .i64 b]) → w.grownBy w' v.ownBlock → (v'.ownBlock = v.ownBlock ∨ v'.ownBlock = some w.heap.size) → wpList Try.prog ops Q rest (a.put o.dst v') w') : wpList Try.prog ops Q (o :: rest) a w := by
  obtain ⟨i0, hi, hz0, hz1, hz2⟩ := info_parts iInt
  obtain ⟨v', w1, h1, h2, h3, _, h5⟩ := run_append_own_at (P := Try.prog) w base 57 57 3 i0 _ 1 8 Try.underlying57 hi hz0 hz1 hz2 rfl (by decide) v n fs hv ad 1 c [.int .i64 b] rfl
    (by
      intro j u hj
      match j, hj with
      | 0, hj => simp at hj; subst hj; exact hc) (by simp [Value.oneCell']) (by unfold maxLen; omega) (by omega) hbw
  refine wpList_plain hgd fun _ hK => ?_
  unfold Oper.wp execOp
  simp only [hop, ht, resolve, invoke, builtin, Sem.run_bind, Sem.run_pure, Result.andThen_ok, List.map_toArray, List.map_cons, List.map_nil, hs, hx, h1]
  exact hK _ _ (h v' w1 h2 h3 h5)

set_option maxHeartbeats 2000000 in
set_option maxRecDepth 100000 in
theorem refState_any (q : ByteArray) (k : Nat) (hk : k ≤ 3) {v : Value} {l : List Nat} {w : World} (h : Ints w v l) (hl : l.length ≤ 1000) (hb : ∀ i, l.getD i 0 ≤ 1000000) (h0 : 0 < l.length) :
    Calls Try.prog 28 #[refA q k, v] w fun e w' => e = .returned (.string (bin (capL k l))) ∧ Below w.heap.size w w' := by
  obtain ⟨i0, gi, gz0, gz1, gz2⟩ := info_parts i5
  have HI := Lib.hid (And.intro gi (And.intro gz0 (And.intro gz1 gz2)))
  clear gi gz0 gz1 gz2
  obtain ⟨b, o, c, rfl, hcells⟩ := h.some h0
  obtain ⟨n, hn⟩ : ∃ n, l.length = n := ⟨_, rfl⟩
  rw [hn] at hcells hl ⊢
  have HN := Lib.hid hn
  have HC := Lib.hid hcells
  have HBd := Lib.hid hb
  have H0 := Lib.hid h0
  unfold refA
  have k1 : IntKind.i64.wrap ((k : Int) + 1) = (k : Int) + 1 := IntWalk.i64_in _ (by omega)
  clear h hn hcells hb h0
  have HB0 : Hid (Below w.heap.size w (w.alloc (.cells #[.string q, .int .i64 (k : Int)] 31)) ∧ (w.alloc (.cells #[.string q, .int .i64 (k : Int)] 31)).cell? ⟨w.heap.size, 1, none⟩ = some (.int .i64 (k : Int)) ∧ (w.alloc (.cells #[.string q, .int .i64 (k : Int)] 31)).heap.size = w.heap.size + 1) := Lib.hid ⟨below_alloc w _, by simp [go_sem], by simp⟩
  go_enter Try.func28, Try.ntmps28
  obtain ⟨W0, hW0⟩ : ∃ W0, W0 = w.alloc (.cells #[.string q, .int .i64 (k : Int)] 31) := ⟨_, rfl⟩
  rw [← hW0] at HB0
  go_wp2
  rw [← hW0]
  clear hW0
  go_loopw [5, 6] (fun s5 s6 wr => ∃ (j : Nat) (ad : Option Addr) (cp : Nat), j ≤ n ∧ s6 = .int .i64 (j : Int) ∧ s5 = .slice ad j cp ∧ Hid (wr.ownsRow W0.heap.size 5 1 (.slice ad j cp) j (u8s (capL k (l.take j)))) ∧ Hid (Below W0.heap.size W0 wr)) (fun _ s6 _ => n - (intOf s6).toNat)
  case atStart => exact ⟨0, none, 0, Nat.zero_le _, rfl, rfl, Lib.hid (World.ownsRow_nil W0 W0.heap.size 5 1), Lib.hid (Below.refl _ _)⟩
  case round =>
    obtain ⟨j, ad, cp, hj, rfl, rfl, HO, HB⟩ := hrel
    by_cases hlt : j < n
    · have d1 : decide ((j : Int) < (n : Int)) = true := decide_eq_true (by omega)
      have d2 : decide (j < n) = true := decide_eq_true hlt
      have il : (j : Int) < (n : Int) := by omega
      obtain ⟨x, hx⟩ : ∃ x, l.getD j 0 = x := ⟨_, rfl⟩
      have hxb : x ≤ 1000000 := by rw [← hx]; exact HBd.out j
      have HX : Hid (∀ W, Below wr.heap.size wr W → W.cell? ⟨b, o + j, none⟩ = some (.int .i64 (x : Int)) ∧ W.cell? ⟨w.heap.size, 1, none⟩ = some (.int .i64 (k : Int))) := Lib.hid fun W hb => by
        have hB := Below.next HB.out hb
        have h1 := HC.out j hlt
        rw [hx] at h1
        have hB2 := Below.next HB0.out.1 hB
        exact ⟨by rw [hB2.cell (p := ⟨b, o + j, none⟩) (block_lt_of_cell h1)]; exact h1, by rw [hB.cell (p := ⟨w.heap.size, 1, none⟩) (by have := HB0.out.2.2; simp only; omega)]; exact HB0.out.2.1⟩
      obtain ⟨y, hy⟩ : ∃ y, cap k x = y := ⟨_, rfl⟩
      have hy2 : y = min x (k + 1) := hy.symm
      have y8 : IntKind.u8.wrap (y : Int) = (y : Int) := IntWalk.u8_in _ (by omega)
      have HY := Lib.hid (And.intro hx (And.intro hy hy2))
      clear hx hy hy2
      go_upto_region 5 with fail
      have hMN : Mono (fun v W => ∃ bb, v = .slice (some ⟨bb, 0, none⟩) 1 1 ∧ W.cell? ⟨bb, 0, none⟩ = some (.int .u8 (y : Int))) := by
        rintro v W W' hb ⟨bb, e, n1⟩
        exact ⟨bb, e, by rw [hb.cell (p := ⟨bb, 0, none⟩) (block_lt_of_cell n1)]; exact n1⟩
      refine Said.region_tail (by kernel_rfl) 11 (by kernel_rfl) (by kernel_rfl) (by kernel_rfl) [.is (.slice ad j cp), .is (.slice (some ⟨b, o, none⟩) n c), .is (.int .i64 (j : Int)), .is (.pointer (some ⟨b, o + j, none⟩)), .is (.int .i64 (x : Int)), .is (.pointer (some ⟨w.heap.size, 1, none⟩)), .is (.int .i64 (k : Int)), .is (.int .i64 ((k + 1 : Nat) : Int)), .is (.int .i64 (y : Int)), .is (.int .u8 (y : Int)),
        .has (fun v W => ∃ bb, v = .slice (some ⟨bb, 0, none⟩) 1 1 ∧ W.cell? ⟨bb, 0, none⟩ = some (.int .u8 (y : Int)))] ?_
      simp only [List.toList_toArray, List.take_succ_cons, List.take_zero, List.drop_succ_cons, List.drop_zero]
      iterate 8 (
        refine sq_pure (by rfl) (fun W hb _ => ?_) ?_
        · obtain ⟨y1, y2⟩ := HX.out W hb
          go_simp
          all_goals first | done | omega
        simp only [Act.put, List.setIfInBounds_toArray, List.set_cons_zero, List.set_cons_succ])
      refine sq_pure (by rfl) (fun W hb _ => ?_) ?_
      · have hy2 := HY.out.2.2
        go_simp
        all_goals ((repeat' split) <;> omega)
      simp only [Act.put, List.setIfInBounds_toArray, List.set_cons_zero, List.set_cons_succ]
      refine sq_pure (by rfl) (fun W hb _ => by go_simp) ?_
      simp only [Act.put, List.setIfInBounds_toArray, List.set_cons_zero, List.set_cons_succ]
      refine sq_has hMN (fun W hb _ => step_value (v := .slice (some ⟨W.heap.size, 0, none⟩) 1 1) (W' := W.alloc (.cells #[.int .u8 (y : Int)] 5)) (by rfl) (by go_simp) (below_alloc W _) ⟨W.heap.size, rfl, by simp⟩) (fun v13 => ?_)
      simp only [Act.put, List.setIfInBounds_toArray, List.set_cons_zero, List.set_cons_succ]
      refine sq_end (fun W hb hK => ?_)
      obtain ⟨bb, rfl, n1⟩ := hK _ (List.mem_cons_self ..)
      have hrowW := row_below HO.out hb
      have HBW := Lib.hid (Below.next HB.out hb)
      clear hK hb
      refine wpList_append_u8 rfl (.tmp 13) (.tmp 23) rfl rfl W0.heap.size (.slice ad j cp) j _ ⟨bb, 0, none⟩ 1 (y : Int) rfl rfl n1 hrowW (by omega) HBW.out.size (fun v' w' hown hg hor => ?_)
      obtain ⟨ad', cp', rfl⟩ := owns_slice hown
      have HN2 : Hid (w'.ownsRow W0.heap.size 5 1 (.slice ad' (j + 1) cp') (j + 1) (u8s (capL k (l.take (j + 1))))) := Lib.hid (by
        rw [capL_take k l j (by rw [HN.out]; exact hlt), HY.out.1, HY.out.2.1]
        have e : u8s (capL k (l.take j) ++ [y]) = u8s (capL k (l.take j)) ++ [.int .u8 (y : Int)] := by simp [u8s]
        rw [e]
        exact hown)
      have HB3 := Lib.hid (HBW.out.grown hg HBW.out.size (fun g e => (owns_cells hrowW g e).1))
      clear hown hg hor hrowW n1
      go_wp2
      exact ⟨⟨j + 1, ad', cp', by omega, by go_num, rfl, HN2, HB3⟩, by simp [intOf]; omega⟩
    · have hjn : j = n := by omega
      have d1 : decide ((j : Int) < (n : Int)) = false := decide_eq_false (by omega)
      have d2 : decide (j < n) = false := decide_eq_false hlt
      have hcv : (convert 38 9 (.slice ad j cp)).run Try.prog wr = .ok (.string (bin (capL k l))) wr := by
        have e : l.take j = l := by rw [hjn, ← HN.out, List.take_length]
        have hr := HO.out
        rw [e] at hr
        have hlen : (capL k l).length = j := by rw [capL_length, HN.out, hjn]
        exact byts_str (byts_of_owns (base := W0.heap.size) (by rw [hlen]; exact hr)) (by rw [hlen, hjn, ← HN.out]; exact H0.out) (fun i => by have := capL_le k l i; omega) _ Try.underlying9
      clear hjn hlt
      go_wp2
      go_ret
      exact ⟨rfl, Below.next HB0.out.1 HB.out⟩

theorem box_cells (q : ByteArray) (k : Nat) (w : World) {W : World} (hb : Below (w.alloc (.cells #[.string q, .int .i64 (k : Int)] 31)).heap.size (w.alloc (.cells #[.string q, .int .i64 (k : Int)] 31)) W) : W.cell? ⟨w.heap.size, 0, none⟩ = some (.string q) ∧ W.cell? ⟨w.heap.size, 1, none⟩ = some (.int .i64 (k : Int)) :=
  ⟨(hb.cell (p := ⟨w.heap.size, 0, none⟩) (by simp)).trans (by simp [go_sem]), (hb.cell (p := ⟨w.heap.size, 1, none⟩) (by simp)).trans (by simp [go_sem])⟩

set_option maxRecDepth 100000 in
theorem refRow_any (q : ByteArray) (w : World) (hq : q.size ≤ 1000) : Calls Try.prog 29 #[.string q] w fun e w' => ∃ v, e = .returned v ∧ Ints w' v (rowT q.data.toList []) ∧ Below w.heap.size w w' := by
  have hb := behind_any q ⟨#[]⟩ w hq (by decide)
  have HB := Lib.hid hb
  clear hb
  go_enter Try.func29, Try.ntmps29
  go_wp2_with (go_at_call 51; (with_reducible refine HB.out.mono ?_); rintro e w' ⟨v, rfl, hr, hB⟩; have HR := Lib.hid (And.intro hr hB); clear hr hB)
  go_ret
  exact ⟨v, rfl, ints_of_owns (base := w.heap.size) (by rw [rowT_length, ba_length]; exact HR.out.1), HR.out.2⟩

theorem rowT_small (q : List UInt8) (i : Nat) : (rowT q []).getD i 0 ≤ q.length := by
  by_cases h : i ≤ q.length
  · rw [rowT_at h, lev_to_nil, List.length_take]
    omega
  · have : ¬ i < (rowT q []).length := by rw [rowT_length]; omega
    simp [List.getD, this]

set_option maxHeartbeats 1000000 in
set_option maxRecDepth 100000 in
theorem refStart_any (q : ByteArray) (k : Nat) (hk : k ≤ 3) (w : World) (hq : q.size ≤ 500) : Calls Try.prog 14 #[refA q k] w fun e w' => e = .returned (.string (bin (startL q.data.toList k))) ∧ Below w.heap.size w w' := by
  have QR := Lib.hid (fun W => refRow_any q W (by omega))
  have QS := Lib.hid (fun (W : World) (v : Value) (h : Ints W v (rowT q.data.toList [])) => refState_any q k hk h (by rw [rowT_length, ba_length]; omega) (fun i => by have := rowT_small q.data.toList i; rw [ba_length] at this; omega) (by rw [rowT_length]; omega))
  unfold refA at QS ⊢
  have HB0 : Hid (Below w.heap.size w (w.alloc (.cells #[.string q, .int .i64 (k : Int)] 31)) ∧ ∀ W, Below (w.alloc (.cells #[.string q, .int .i64 (k : Int)] 31)).heap.size (w.alloc (.cells #[.string q, .int .i64 (k : Int)] 31)) W → W.cell? ⟨w.heap.size, 0, none⟩ = some (.string q) ∧ W.cell? ⟨w.heap.size, 1, none⟩ = some (.int .i64 (k : Int))) := Lib.hid ⟨below_alloc w _, fun W hb => box_cells q k w hb⟩
  go_enter Try.func14, Try.ntmps14
  obtain ⟨W0, hW0⟩ : ∃ W0, W0 = w.alloc (.cells #[.string q, .int .i64 (k : Int)] 31) := ⟨_, rfl⟩
  rw [← hW0] at HB0
  go_upto_region 1 with fail
  rw [← hW0]
  clear hW0
  refine Said.region (by kernel_rfl) (by kernel_rfl) (by kernel_rfl) [.is (.agg #[.string q, .int .i64 (k : Int)]), .is (.pointer (some ⟨w.heap.size, 0, none⟩)), .is (.string q), .has (fun v W => Ints W v (rowT q.data.toList [])), .is (.string (bin (startL q.data.toList k))), .is (.string (bin (startL q.data.toList k)))] ?_
  simp only [List.toList_toArray]
  iterate 3 (
    refine sq_pure (by rfl) (fun W hb _ => ?_) ?_
    · obtain ⟨y1, y2⟩ := HB0.out.2 W hb
      go_simp
      all_goals first | done | omega
    simp only [Act.put, List.setIfInBounds_toArray, List.set_cons_zero, List.set_cons_succ])
  refine sq_calls (f := 29) (args := #[.string q]) (ints_mono _) (by rfl) (fun W => by go_simp) (fun W hb _ => (QR.out W).mono fun e w' h => h) (fun v => ?_)
  simp only [Act.put, List.setIfInBounds_toArray, List.set_cons_zero, List.set_cons_succ]
  refine sq_call (f := 28) (args := #[.agg #[.string q, .int .i64 (k : Int)], v]) (by rfl) (fun W => by go_simp) (fun W hb hf => QS.out W v (hf.1 (by kernel_rfl))) ?_
  simp only [Act.put, List.setIfInBounds_toArray, List.set_cons_zero, List.set_cons_succ]
  iterate 1 (
    refine sq_pure (by rfl) (fun W hb _ => ?_) ?_
    · skip
      go_simp
      all_goals first | done | omega
    simp only [Act.put, List.setIfInBounds_toArray, List.set_cons_zero, List.set_cons_succ])
  refine sq_end (fun W9 hb9 hK9 => ?_)
  have H9 := Lib.hid (Below.next HB0.out.1 hb9)
  clear hK9 hb9
  go_wp2
  go_ret
  exact ⟨rfl, H9.out⟩

/-! ### Is -/
theorem isS_no {q : ByteArray} {k : Nat} {s : ByteArray} {j : Nat} (hj : j < s.size) (h : k + 1 < (nums s).getD j 0) : isS q k s = false := by
  cases hi : isS q k s
  · rfl
  · have := (isS_iff.1 hi).2 j
    omega
set_option maxHeartbeats 1000000 in
set_option maxRecDepth 100000 in
theorem refIs_any (q s : ByteArray) (k : Nat) (hk : k ≤ 3) (w : World) (hq : q.size ≤ 500) : Calls Try.prog 35 #[refA q k, .string s] w fun e w' => e = .returned (.bool (isS q k s)) ∧ Below w.heap.size w w' := by
  unfold refA
  have k1 : IntKind.i64.wrap ((k : Int) + 1) = (k : Int) + 1 := IntWalk.i64_in _ (by omega)
  have HB0 : Hid (Below w.heap.size w (w.alloc (.cells #[.string q, .int .i64 (k : Int)] 31)) ∧ ∀ W, Below (w.alloc (.cells #[.string q, .int .i64 (k : Int)] 31)).heap.size (w.alloc (.cells #[.string q, .int .i64 (k : Int)] 31)) W → W.cell? ⟨w.heap.size, 0, none⟩ = some (.string q) ∧ W.cell? ⟨w.heap.size, 1, none⟩ = some (.int .i64 (k : Int))) := Lib.hid ⟨below_alloc w _, fun W hb => box_cells q k w hb⟩
  by_cases hl : s.size = q.size + 1
  · have HL := Lib.hid hl
    obtain ⟨n, hn⟩ : ∃ n, s.size = n := ⟨_, rfl⟩
    have hnq : n = q.size + 1 := by omega
    have e1 : ((n : Int) == (q.size : Int) + 1) = true := by simp; omega
    have e2 : ((n : Int) != (q.size : Int) + 1) = false := by simp; omega
    have e3 : (n == q.size + 1) = true := by simp; omega
    have e4 : (n != q.size + 1) = false := by simp; omega
    have hn5 : n ≤ 501 := by omega
    have HNQ := Lib.hid (And.intro hn hnq)
    clear hl hnq
    go_enter Try.func35, Try.ntmps35
    obtain ⟨W0, hW0⟩ : ∃ W0, W0 = w.alloc (.cells #[.string q, .int .i64 (k : Int)] 31) := ⟨_, rfl⟩
    rw [← hW0] at HB0
    obtain ⟨y1, y2⟩ := HB0.out.2 W0 (Below.refl _ _)
    rw [hW0] at y1 y2
    go_wp2
    rw [← hW0]
    clear hW0 y1 y2
    go_loopw [5] (fun s5 wr => ∃ j : Nat, j ≤ n ∧ s5 = .int .i64 (j : Int) ∧ Hid (∀ i, i < j → (nums s).getD i 0 ≤ k + 1) ∧ Hid (Below W0.heap.size W0 wr)) (fun s5 _ => n - (intOf s5).toNat)
    case atStart => exact ⟨0, Nat.zero_le _, rfl, Lib.hid fun i hi => (by omega), Lib.hid (Below.refl _ _)⟩
    case round =>
      obtain ⟨j, hj, rfl, HJ, HB⟩ := hrel
      by_cases hlt : j < n
      · have d1 : decide ((j : Int) < (n : Int)) = true := decide_eq_true (by omega)
        have d2 : decide (j < n) = true := decide_eq_true hlt
        have il : (j : Int) < (n : Int) := by omega
        have hsj : ∀ h : j < s.size, (s[j]'h).toNat = (nums s).getD j 0 := fun h => by rw [nums_at s h]
        obtain ⟨x, hx⟩ : ∃ x, (nums s).getD j 0 = x := ⟨_, rfl⟩
        have hx8 : x < 256 := by rw [← hx]; exact nums_lt s j
        rw [hx] at hsj
        have x0 : IntKind.i64.wrap (x : Int) = (x : Int) := IntWalk.i64_in _ (by omega)
        obtain ⟨z1, z2⟩ := HB0.out.2 wr HB.out
        have HX := Lib.hid hx
        clear hx
        by_cases hle : x ≤ k + 1
        · have f1 : decide ((k : Int) + 1 < (x : Int)) = false := by simp; omega
          have f2 : decide (k + 1 < x) = false := by simp; omega
          have HLE := Lib.hid hle
          clear hle
          go_upto_region 6 with fail
          go_quiet (fail)
          have HB3 := Lib.hid (below_drewN HB.out nq)
          go_wp2
          go_roundw
          case rel => exact ⟨j + 1, by omega, by go_num, Lib.hid fun i hi => (by
            by_cases e : i = j
            · rw [e, HX.out]; exact HLE.out
            · exact HJ.out i (by omega)), HB3⟩
          case measure => simp [intOf]; omega
        · have f1 : decide ((k : Int) + 1 < (x : Int)) = true := by simp; omega
          have f2 : decide (k + 1 < x) = true := by simp; omega
          have HF := Lib.hid (isS_no (q := q) (k := k) (s := s) (j := j) (by rw [HNQ.out.1]; exact hlt) (by rw [HX.out]; omega))
          clear hle
          go_upto_region 6 with fail
          go_quiet (fail)
          have HB3 := Lib.hid (below_drewN HB.out nq)
          go_wp2
          go_ret
          exact ⟨by rw [HF.out]; rfl, Below.next HB0.out.1 HB3.out⟩
      · have d1 : decide ((j : Int) < (n : Int)) = false := decide_eq_false (by omega)
        have d2 : decide (j < n) = false := decide_eq_false hlt
        have hT : isS q k s = true := by
          unfold isS
          rw [decide_eq_true_eq, maxT_le]
          refine ⟨HL.out, fun i => ?_⟩
          by_cases hi : i < n
          · exact HJ.out i (by omega)
          · have : ¬ i < (nums s).length := by rw [nums_length, HNQ.out.1]; exact hi
            simp [List.getD, this]
        have HT := Lib.hid hT
        clear hT hlt
        go_wp2
        go_ret
        exact ⟨by rw [HT.out]; rfl, Below.next HB0.out.1 HB.out⟩
  · have hfalse : isS q k s = false := by simp [isS, hl]
    have e1 : ((s.size : Int) == (q.size : Int) + 1) = false := by simp; omega
    have e2 : ((s.size : Int) != (q.size : Int) + 1) = true := by simp; omega
    have e3 : (s.size == q.size + 1) = false := by simp; omega
    have e4 : (s.size != q.size + 1) = true := by simp; omega
    rw [hfalse]
    clear hfalse hl
    go_enter Try.func35, Try.ntmps35
    go_wp2
    go_ret
    exact ⟨rfl, HB0.out.1⟩
end Go.Proofs.Ythgdanbkngnckaa
namespace Go.Proofs.Ythgdanbkngnckaa
open Go.RowKit Go.Shelf Said

def nxL (q : List UInt8) (r : List Nat) (c : UInt8) (n : Nat) : List Nat := (List.range n).map (nx q r c)
theorem nxL_succ (q : List UInt8) (r : List Nat) (c : UInt8) (n : Nat) : nxL q r c (n + 1) = nxL q r c n ++ [nx q r c n] := by
  unfold nxL
  rw [List.range_succ, List.map_append]
  rfl
theorem nxL_length (q : List UInt8) (r : List Nat) (c : UInt8) (n : Nat) : (nxL q r c n).length = n := by simp [nxL]
theorem nxL_at (q : List UInt8) (r : List Nat) (c : UInt8) {n i : Nat} (h : i < n) : (nxL q r c n).getD i 0 = nx q r c i := by simp [nxL, List.getD, h]

set_option maxHeartbeats 2000000 in
set_option maxRecDepth 100000 in
theorem refStep_any (q s : ByteArray) (k : Nat) (hk : k ≤ 3) (c : UInt8) (w : World) (hq : q.size ≤ 500) : Calls Try.prog 17 #[refA q k, .string s, .int .u8 (c.toNat : Int)] w fun e w' => e = .returned (.string (StepS q k s c)) ∧ Below w.heap.size w w' := by
  have QI := Lib.hid (fun W => refIs_any q s k hk W hq)
  have QS := Lib.hid (fun (W : World) (v : Value) (l : List Nat) (h : Ints W v l) h1 h2 h3 => refState_any q k hk (w := W) (l := l) h h1 h2 h3)
  unfold refA at QI QS ⊢
  have HB0 : Hid (Below w.heap.size w (w.alloc (.cells #[.string q, .int .i64 (k : Int)] 31)) ∧ ∀ W, Below (w.alloc (.cells #[.string q, .int .i64 (k : Int)] 31)).heap.size (w.alloc (.cells #[.string q, .int .i64 (k : Int)] 31)) W → W.cell? ⟨w.heap.size, 0, none⟩ = some (.string q) ∧ W.cell? ⟨w.heap.size, 1, none⟩ = some (.int .i64 (k : Int))) := Lib.hid ⟨below_alloc w _, fun W hb => box_cells q k w hb⟩
  by_cases his : isS q k s = true
  · have hs := isS_iff.1 his
    rw [his] at QI
    have hans : StepS q k s c = bin (stepL q.data.toList k (nums s) c) := if_pos his
    rw [hans]
    have hsz : s.size = q.size + 1 := by rw [← nums_length, hs.1, ba_length]
    have hx0 : ∀ h : 0 < s.size, (s[0]'h).toNat = (nums s).getD 0 0 := fun h => by rw [nums_at s h]
    have hn0 : nx q.data.toList (nums s) c 0 = (nums s).getD 0 0 + 1 := rfl
    obtain ⟨x0, hxx⟩ : ∃ x0, (nums s).getD 0 0 = x0 := ⟨_, rfl⟩
    have hx4 : x0 ≤ 4 := by rw [← hxx]; have := hs.2 0; omega
    rw [hxx] at hx0 hn0
    have w0 : IntKind.i64.wrap (x0 : Int) = (x0 : Int) := IntWalk.i64_in _ (by omega)
    have ms : (0 : Int) < (s.size : Int) := by omega
    have HS := Lib.hid hs
    have HSz := Lib.hid hsz
    have HN0 := Lib.hid hn0
    obtain ⟨n, hn⟩ : ∃ n, s.size = n := ⟨_, rfl⟩
    have HN : Hid (s.size = n ∧ n = q.size + 1) := Lib.hid ⟨hn, by omega⟩
    clear his hs hans hsz hxx hn hn0
    go_enter Try.func17, Try.ntmps17
    obtain ⟨W0, hW0⟩ : ∃ W0, W0 = w.alloc (.cells #[.string q, .int .i64 (k : Int)] 31) := ⟨_, rfl⟩
    rw [← hW0] at HB0
    obtain ⟨y1, y2⟩ := HB0.out.2 W0 (Below.refl _ _)
    rw [hW0] at y1 y2
    go_upto_region 3 with (rw [← hW0]; go_at_call 35; (with_reducible refine (QI.out W0).mono ?_); rintro e w1 ⟨rfl, hB⟩; have H1 := Lib.hid hB; clear hB)
    clear y1 y2 hW0
    go_wp2
    obtain ⟨w2, hw2⟩ : ∃ w2, w2 = w1.alloc (.cells #[.int .i64 ((x0 : Int) + 1)] 3) := ⟨_, rfl⟩
    have HO2 : Hid (w2.ownsRow W0.heap.size 3 1 (.slice (some ⟨w1.heap.size, 0, none⟩) 1 1) 1 (nats (nxL q.data.toList (nums s) c 1))) := Lib.hid (by
      have h := World.ownsRow_lit (base := W0.heap.size) (e := 3) (size := 1) w1 #[.int .i64 ((x0 : Int) + 1)] 1 H1.out.size (by unfold maxLen; omega) rfl
      have e : nats (nxL q.data.toList (nums s) c 1) = [.int .i64 ((x0 : Int) + 1)] := by
        rw [nxL_succ, HN0.out]
        simp [nats, nxL]
      rw [e, hw2]
      exact h)
    have H2 : Hid (Below W0.heap.size W0 w2) := Lib.hid (by rw [hw2]; exact Below.next H1.out (below_alloc _ _))
    rw [← hw2]
    clear hw2
    generalize w1.heap.size = g1 at HO2 ⊢
    clear hx0 w0 ms
    go_loopw [7, 8] (fun s7 s8 wr => ∃ (j : Nat) (ad : Option Addr) (cp : Nat), j ≤ q.size ∧ s8 = .int .i64 ((j : Int) + 1) ∧ s7 = .slice ad (j + 1) cp ∧ Hid (wr.ownsRow W0.heap.size 3 1 (.slice ad (j + 1) cp) (j + 1) (nats (nxL q.data.toList (nums s) c (j + 1)))) ∧ Hid (Below W0.heap.size W0 wr)) (fun _ s8 _ => n - (intOf s8).toNat)
    case atStart => exact ⟨0, some ⟨g1, 0, none⟩, 1, Nat.zero_le _, rfl, rfl, HO2, H2⟩
    case round =>
      obtain ⟨j, ad, cp, hj, rfl, rfl, HO, HB⟩ := hrel
      by_cases hlt : j < q.size
      · have d1 : decide ((j : Int) + 1 < (s.size : Int)) = true := decide_eq_true (by have := HN.out; omega)
        have d2 : decide (j + 1 < s.size) = true := decide_eq_true (by have := HN.out; omega)
        have il : (j : Int) + 1 < (s.size : Int) := by have := HN.out; omega
        have il0 : (j : Int) < (s.size : Int) := by omega
        have ilq : (j : Int) < (q.size : Int) := by omega
        have jw : IntKind.i64.wrap (j : Int) = (j : Int) := IntWalk.i64_in _ (by omega)
        have hg : ∃ g, ad = some ⟨g, 0, none⟩ := by
          rcases HO.out.2 with ⟨e, h0⟩ | ⟨g, cap, cur, e, _⟩
          · omega
          · injection e with e1; exact ⟨g, e1⟩
        obtain ⟨g, had⟩ := hg
        have HX : Hid (∀ W, Below wr.heap.size wr W → W.cell? ⟨g, j, none⟩ = some (.int .i64 ((nx q.data.toList (nums s) c j : Nat) : Int))) := Lib.hid fun W hb => by
          have h := row_below HO.out hb
          rw [had] at h
          rw [h.cellAt j (by omega), nats_at (by rw [nxL_length]; omega), nxL_at _ _ _ (by omega)]
        have hsj : ∀ h : j < s.size, (s[j]'h).toNat = (nums s).getD j 0 := fun h => by rw [nums_at s h]
        have hsj1 : ∀ h : j + 1 < s.size, (s[j + 1]'h).toNat = (nums s).getD (j + 1) 0 := fun h => by rw [nums_at s h]
        have hnx : nx q.data.toList (nums s) c (j + 1) = min (min ((nums s).getD j 0 + ch (q[j]'hlt) c) ((nums s).getD (j + 1) 0 + 1)) (nx q.data.toList (nums s) c j + 1) := by rw [nx, byte_getD q j hlt]
        have hzb : nx q.data.toList (nums s) c j ≤ 10 := by have h := nx_le q.data.toList (nums s) c j; have := HS.out.2 j; omega
        have hb0 := HS.out.2 j
        have hb1 := HS.out.2 (j + 1)
        obtain ⟨x, hx⟩ : ∃ x, (nums s).getD j 0 = x := ⟨_, rfl⟩
        obtain ⟨x1, hx1⟩ : ∃ x, (nums s).getD (j + 1) 0 = x := ⟨_, rfl⟩
        obtain ⟨z, hz⟩ : ∃ z, nx q.data.toList (nums s) c j = z := ⟨_, rfl⟩
        obtain ⟨y, hy⟩ : ∃ y, nx q.data.toList (nums s) c (j + 1) = y := ⟨_, rfl⟩
        obtain ⟨cq, hcq⟩ : ∃ cq, q[j]'hlt = cq := ⟨_, rfl⟩
        rw [hx] at hsj hnx hb0
        rw [hx1] at hsj1 hnx hb1
        rw [hz] at HX hnx hzb
        rw [hcq] at hnx
        rw [hy] at hnx
        have x8 : IntKind.i64.wrap (x : Int) = (x : Int) := IntWalk.i64_in _ (by omega)
        have x9 : IntKind.i64.wrap ((x : Int) + 1) = ((x + 1 : Nat) : Int) := by rw [IntWalk.i64_in _ (by omega)]; omega
        have x18 : IntKind.i64.wrap (x1 : Int) = (x1 : Int) := IntWalk.i64_in _ (by omega)
        have x19 : IntKind.i64.wrap ((x1 : Int) + 1) = ((x1 + 1 : Nat) : Int) := by rw [IntWalk.i64_in _ (by omega)]; omega
        have z19 : IntKind.i64.wrap ((z : Int) + 1) = ((z + 1 : Nat) : Int) := by rw [IntWalk.i64_in _ (by omega)]; omega
        have hMN : Mono (fun v W => ∃ bb, v = .slice (some ⟨bb, 0, none⟩) 1 1 ∧ W.cell? ⟨bb, 0, none⟩ = some (.int .i64 (y : Int))) := by
          rintro v W W' hb ⟨bb, e, n1⟩
          exact ⟨bb, e, by rw [hb.cell (p := ⟨bb, 0, none⟩) (block_lt_of_cell n1)]; exact n1⟩
        obtain ⟨c1, c2⟩ := HB0.out.2 wr HB.out
        have hcc : ch cq c = 0 ∧ ((cq.toNat : Int) == (c.toNat : Int)) = true ∧ (cq.toNat == c.toNat) = true ∨ ch cq c = 1 ∧ ((cq.toNat : Int) == (c.toNat : Int)) = false ∧ (cq.toNat == c.toNat) = false := by
          unfold ch
          by_cases e : cq = c
          · left; subst e; simp
          · right
            have hn : cq.toNat ≠ c.toNat := fun e' => e (UInt8.toNat_inj.1 e')
            rw [if_neg e]
            refine ⟨rfl, by simp; omega, by simp; omega⟩
        clear hx hx1 hz hb0 hb1
        rcases hcc with ⟨h0, f1, f2⟩ | ⟨h0, f1, f2⟩
        · have f3 : ((cq.toNat : Int) != (c.toNat : Int)) = false := by simp only [bne, f1]; rfl
          have f4 : (cq.toNat != c.toNat) = false := by simp only [bne, f2]; rfl
          have HY : Hid (y = min (min x (x1 + 1)) (z + 1) ∧ nx q.data.toList (nums s) c (j + 1) = y) := Lib.hid ⟨by rw [hnx, h0, Nat.add_zero], hy⟩
          clear hnx h0 hy
          go_upto_region 10 with fail
          refine Said.region_tail (by kernel_rfl) 15 (by kernel_rfl) (by kernel_rfl) (by kernel_rfl) [.is (.slice ad (j + 1) cp), .is (.int .i64 (x : Int)), .is (.string s), .is (.int .i64 ((j + 1 : Nat) : Int)), .is (.int .u8 (x1 : Int)), .is (.int .i64 (x1 : Int)), .is (.int .i64 ((x1 + 1 : Nat) : Int)), .is (.slice ad (j + 1) cp), .is (.int .i64 ((j + 1 : Nat) : Int)), .is (.int .i64 (j : Int)), .is (.pointer (some ⟨g, j, none⟩)), .is (.int .i64 (z : Int)), .is (.int .i64 ((z + 1 : Nat) : Int)), .is (.int .i64 (y : Int)),
            .has (fun v W => ∃ bb, v = .slice (some ⟨bb, 0, none⟩) 1 1 ∧ W.cell? ⟨bb, 0, none⟩ = some (.int .i64 (y : Int)))] ?_
          simp only [List.toList_toArray, List.take_succ_cons, List.take_zero, List.drop_succ_cons, List.drop_zero]
          iterate 13 (
            refine sq_pure (by rfl) (fun W hb _ => ?_) ?_
            · have y1 := HX.out W hb
              go_simp
              all_goals first | done | omega
            simp only [Act.put, List.setIfInBounds_toArray, List.set_cons_zero, List.set_cons_succ])
          refine sq_pure (by rfl) (fun W hb _ => ?_) ?_
          · have hy2 := HY.out.1
            go_simp
            all_goals ((repeat' split) <;> omega)
          simp only [Act.put, List.setIfInBounds_toArray, List.set_cons_zero, List.set_cons_succ]
          refine sq_has hMN (fun W hb _ => step_value (v := .slice (some ⟨W.heap.size, 0, none⟩) 1 1) (W' := W.alloc (.cells #[.int .i64 (y : Int)] 3)) (by rfl) (by go_simp) (below_alloc W _) ⟨W.heap.size, rfl, by simp⟩) (fun v13 => ?_)
          simp only [Act.put, List.setIfInBounds_toArray, List.set_cons_zero, List.set_cons_succ]
          refine sq_end (fun W hb hK => ?_)
          obtain ⟨bb, rfl, n1⟩ := hK _ (List.mem_cons_self ..)
          have hrowW := row_below HO.out hb
          have HBW := Lib.hid (Below.next HB.out hb)
          clear hK hb
          subst had
          refine wpList_append_i64 rfl (.tmp 39) (.tmp 53) rfl rfl W0.heap.size (.slice (some ⟨g, 0, none⟩) (j + 1) cp) (j + 1) _ ⟨bb, 0, none⟩ 1 (y : Int) rfl rfl n1 hrowW (by omega) HBW.out.size (fun v' w' hown hg hor => ?_)
          obtain ⟨ad', cp', rfl⟩ := owns_slice hown
          have HN2 : Hid (w'.ownsRow W0.heap.size 3 1 (.slice ad' (j + 1 + 1) cp') (j + 1 + 1) (nats (nxL q.data.toList (nums s) c (j + 1 + 1)))) := Lib.hid (by
            rw [nxL_succ q.data.toList (nums s) c (j + 1), HY.out.2]
            have e : nats (nxL q.data.toList (nums s) c (j + 1) ++ [y]) = nats (nxL q.data.toList (nums s) c (j + 1)) ++ [.int .i64 (y : Int)] := by simp [nats]
            rw [e]
            exact hown)
          have HB3 := Lib.hid (HBW.out.grown hg HBW.out.size (fun g e => (owns_cells hrowW g e).1))
          clear hown hg hor hrowW n1
          go_wp2
          exact ⟨⟨j + 1, ad', cp', by omega, by go_num, rfl, HN2, HB3⟩, by have := HN.out; simp [intOf]; omega⟩
        · have f3 : ((cq.toNat : Int) != (c.toNat : Int)) = true := by simp only [bne, f1]; rfl
          have f4 : (cq.toNat != c.toNat) = true := by simp only [bne, f2]; rfl
          have HY : Hid (y = min (min (x + 1) (x1 + 1)) (z + 1) ∧ nx q.data.toList (nums s) c (j + 1) = y) := Lib.hid ⟨by rw [hnx, h0], hy⟩
          clear hnx h0 hy
          go_upto_region 10 with fail
          refine Said.region_tail (by kernel_rfl) 15 (by kernel_rfl) (by kernel_rfl) (by kernel_rfl) [.is (.slice ad (j + 1) cp), .is (.int .i64 ((x + 1 : Nat) : Int)), .is (.string s), .is (.int .i64 ((j + 1 : Nat) : Int)), .is (.int .u8 (x1 : Int)), .is (.int .i64 (x1 : Int)), .is (.int .i64 ((x1 + 1 : Nat) : Int)), .is (.slice ad (j + 1) cp), .is (.int .i64 ((j + 1 : Nat) : Int)), .is (.int .i64 (j : Int)), .is (.pointer (some ⟨g, j, none⟩)), .is (.int .i64 (z : Int)), .is (.int .i64 ((z + 1 : Nat) : Int)), .is (.int .i64 (y : Int)),
            .has (fun v W => ∃ bb, v = .slice (some ⟨bb, 0, none⟩) 1 1 ∧ W.cell? ⟨bb, 0, none⟩ = some (.int .i64 (y : Int)))] ?_
          simp only [List.toList_toArray, List.take_succ_cons, List.take_zero, List.drop_succ_cons, List.drop_zero]
          iterate 13 (
            refine sq_pure (by rfl) (fun W hb _ => ?_) ?_
            · have y1 := HX.out W hb
              go_simp
              all_goals first | done | omega
            simp only [Act.put, List.setIfInBounds_toArray, List.set_cons_zero, List.set_cons_succ])
          refine sq_pure (by rfl) (fun W hb _ => ?_) ?_
          · have hy2 := HY.out.1
            go_simp
            all_goals ((repeat' split) <;> omega)
          simp only [Act.put, List.setIfInBounds_toArray, List.set_cons_zero, List.set_cons_succ]
          refine sq_has hMN (fun W hb _ => step_value (v := .slice (some ⟨W.heap.size, 0, none⟩) 1 1) (W' := W.alloc (.cells #[.int .i64 (y : Int)] 3)) (by rfl) (by go_simp) (below_alloc W _) ⟨W.heap.size, rfl, by simp⟩) (fun v13 => ?_)
          simp only [Act.put, List.setIfInBounds_toArray, List.set_cons_zero, List.set_cons_succ]
          refine sq_end (fun W hb hK => ?_)
          obtain ⟨bb, rfl, n1⟩ := hK _ (List.mem_cons_self ..)
          have hrowW := row_below HO.out hb
          have HBW := Lib.hid (Below.next HB.out hb)
          clear hK hb
          subst had
          refine wpList_append_i64 rfl (.tmp 39) (.tmp 53) rfl rfl W0.heap.size (.slice (some ⟨g, 0, none⟩) (j + 1) cp) (j + 1) _ ⟨bb, 0, none⟩ 1 (y : Int) rfl rfl n1 hrowW (by omega) HBW.out.size (fun v' w' hown hg hor => ?_)
          obtain ⟨ad', cp', rfl⟩ := owns_slice hown
          have HN2 : Hid (w'.ownsRow W0.heap.size 3 1 (.slice ad' (j + 1 + 1) cp') (j + 1 + 1) (nats (nxL q.data.toList (nums s) c (j + 1 + 1)))) := Lib.hid (by
            rw [nxL_succ q.data.toList (nums s) c (j + 1), HY.out.2]
            have e : nats (nxL q.data.toList (nums s) c (j + 1) ++ [y]) = nats (nxL q.data.toList (nums s) c (j + 1)) ++ [.int .i64 (y : Int)] := by simp [nats]
            rw [e]
            exact hown)
          have HB3 := Lib.hid (HBW.out.grown hg HBW.out.size (fun g e => (owns_cells hrowW g e).1))
          clear hown hg hor hrowW n1
          go_wp2
          exact ⟨⟨j + 1, ad', cp', by omega, by go_num, rfl, HN2, HB3⟩, by have := HN.out; simp [intOf]; omega⟩
      · have hjn : j = q.size := by omega
        have d1 : decide ((j : Int) + 1 < (s.size : Int)) = false := decide_eq_false (by have := HN.out; omega)
        have d2 : decide (j + 1 < s.size) = false := decide_eq_false (by have := HN.out; omega)
        have hbd : ∀ i, (nxL q.data.toList (nums s) c (j + 1)).getD i 0 ≤ 1000000 := fun i => by
          by_cases hi : i < j + 1
          · rw [nxL_at _ _ _ hi]
            have h := nx_le q.data.toList (nums s) c i
            have := HS.out.2 i
            omega
          · simp [nxL, List.getD, hi]
        have hIn : Ints wr (.slice ad (j + 1) cp) (nxL q.data.toList (nums s) c (j + 1)) := ints_of_owns (base := W0.heap.size) (by rw [nxL_length]; exact HO.out)
        have Q2 := Lib.hid (QS.out wr _ _ hIn (by rw [nxL_length]; omega) hbd (by rw [nxL_length]; omega))
        have e : capL k (nxL q.data.toList (nums s) c (j + 1)) = stepL q.data.toList k (nums s) c := by rw [hjn, ← ba_length]; rfl
        rw [e] at Q2
        obtain ⟨c1, c2⟩ := HB0.out.2 wr HB.out
        clear hbd hIn e hjn hlt
        go_wp2_with (go_at_call 28; (with_reducible refine Q2.out.mono ?_); rintro e w9 ⟨rfl, hB⟩; have H9 := Lib.hid (Below.next HB.out hB); clear hB)
        go_ret
        exact ⟨rfl, Below.next HB0.out.1 H9.out⟩
  · have hf : isS q k s = false := by simpa using his
    rw [hf] at QI
    rw [show StepS q k s c = ⟨#[]⟩ by rw [StepS, if_neg his]]
    clear his hf
    go_enter Try.func17, Try.ntmps17
    obtain ⟨W0, hW0⟩ : ∃ W0, W0 = w.alloc (.cells #[.string q, .int .i64 (k : Int)] 31) := ⟨_, rfl⟩
    rw [← hW0] at HB0
    obtain ⟨y1, y2⟩ := HB0.out.2 W0 (Below.refl _ _)
    rw [hW0] at y1 y2
    go_wp2_with (rw [← hW0]; go_at_call 35; (with_reducible refine (QI.out W0).mono ?_); rintro e w1 ⟨rfl, hB⟩; have H1 := Lib.hid hB; clear hB)
    go_ret
    exact ⟨rfl, Below.next HB0.out.1 H1.out⟩

set_option maxHeartbeats 2000000 in
set_option maxRecDepth 100000 in
theorem refDist_any (q s : ByteArray) (k : Nat) (hk : k ≤ 3) (w : World) (hq : q.size ≤ 500) : Calls Try.prog 30 #[refA q k, .string s] w fun e w' => e = .returned (askV q k s (wholeL (nums s))) ∧ Below w.heap.size w w' := by
  have QI := Lib.hid (fun W => refIs_any q s k hk W hq)
  unfold refA at QI ⊢
  have HB0 : Hid (Below w.heap.size w (w.alloc (.cells #[.string q, .int .i64 (k : Int)] 31)) ∧ ∀ W, Below (w.alloc (.cells #[.string q, .int .i64 (k : Int)] 31)).heap.size (w.alloc (.cells #[.string q, .int .i64 (k : Int)] 31)) W → W.cell? ⟨w.heap.size, 0, none⟩ = some (.string q) ∧ W.cell? ⟨w.heap.size, 1, none⟩ = some (.int .i64 (k : Int))) := Lib.hid ⟨below_alloc w _, fun W hb => box_cells q k w hb⟩
  by_cases his : isS q k s = true
  · have hs := isS_iff.1 his
    rw [his] at QI
    have hsz : s.size = q.size + 1 := by rw [← nums_length, hs.1, ba_length]
    have hn : wholeL (nums s) = (nums s).getD q.size 0 := by rw [wholeL, nums_length, hsz]; rfl
    have hat : ∀ h : q.size < s.size, (s[q.size]'h).toNat = wholeL (nums s) := fun h => by rw [hn, nums_at s h]
    have hx4 : wholeL (nums s) ≤ 4 := by rw [hn]; have := hs.2 q.size; omega
    rw [askV_yes hs]
    obtain ⟨x, hx⟩ : ∃ x, wholeL (nums s) = x := ⟨_, rfl⟩
    rw [hx] at hat hx4 ⊢
    have il : (q.size : Int) < (s.size : Int) := by omega
    have x8 : IntKind.i64.wrap (x : Int) = (x : Int) := IntWalk.i64_in _ (by omega)
    clear his hs hsz hn hx
    unfold withV
    by_cases hle : x ≤ k
    · rw [if_pos hle, decide_eq_true hle]
      have f1 : decide ((k : Int) < (x : Int)) = false := decide_eq_false (by omega)
      have f2 : decide (k < x) = false := decide_eq_false (by omega)
      clear hle
      go_enter Try.func30, Try.ntmps30
      obtain ⟨W0, hW0⟩ : ∃ W0, W0 = w.alloc (.cells #[.string q, .int .i64 (k : Int)] 31) := ⟨_, rfl⟩
      rw [← hW0] at HB0
      go_upto_region 1 with fail
      rw [← hW0]
      clear hW0
      refine Said.region (by kernel_rfl) (by kernel_rfl) (by kernel_rfl) [.is (.agg #[.string q, .int .i64 (k : Int)]), .is (.string s), .is (.bool true), .is (.bool false), .is (.bool false), .is (.string s), .is (.pointer (some ⟨w.heap.size, 0, none⟩)), .is (.string q), .is (.int .i64 (q.size : Int)), .is (.int .u8 (x : Int)), .is (.int .i64 (x : Int)), .is (.pointer (some ⟨w.heap.size, 1, none⟩)), .is (.int .i64 (k : Int)), .is (.bool false), .is (.bool false)] ?_
      simp only [List.toList_toArray]
      iterate 2 (
        refine sq_pure (by rfl) (fun W hb _ => ?_) ?_
        · obtain ⟨y1, y2⟩ := HB0.out.2 W hb
          go_simp
          all_goals first | done | omega
        simp only [Act.put, List.setIfInBounds_toArray, List.set_cons_zero, List.set_cons_succ])
      refine sq_call (f := 35) (args := #[.agg #[.string q, .int .i64 (k : Int)], .string s]) (by rfl) (fun W => by go_simp) (fun W hb _ => QI.out W) ?_
      simp only [Act.put, List.setIfInBounds_toArray, List.set_cons_zero, List.set_cons_succ]
      iterate 12 (
        refine sq_pure (by rfl) (fun W hb _ => ?_) ?_
        · obtain ⟨y1, y2⟩ := HB0.out.2 W hb
          go_simp
          all_goals first | done | omega
        simp only [Act.put, List.setIfInBounds_toArray, List.set_cons_zero, List.set_cons_succ])
      refine sq_end (fun W9 hb9 hK9 => ?_)
      have H9 := Lib.hid (Below.next HB0.out.1 hb9)
      obtain ⟨y1, y2⟩ := HB0.out.2 W9 hb9
      clear hK9 hb9
      go_wp2
      go_ret2
      exact ⟨rfl, H9.out⟩
    · rw [if_neg hle, decide_eq_false hle]
      have f1 : decide ((k : Int) < (x : Int)) = true := decide_eq_true (by omega)
      have f2 : decide (k < x) = true := decide_eq_true (by omega)
      clear hle
      go_enter Try.func30, Try.ntmps30
      obtain ⟨W0, hW0⟩ : ∃ W0, W0 = w.alloc (.cells #[.string q, .int .i64 (k : Int)] 31) := ⟨_, rfl⟩
      rw [← hW0] at HB0
      go_upto_region 1 with fail
      rw [← hW0]
      clear hW0
      refine Said.region (by kernel_rfl) (by kernel_rfl) (by kernel_rfl) [.is (.agg #[.string q, .int .i64 (k : Int)]), .is (.string s), .is (.bool true), .is (.bool false), .is (.bool false), .is (.string s), .is (.pointer (some ⟨w.heap.size, 0, none⟩)), .is (.string q), .is (.int .i64 (q.size : Int)), .is (.int .u8 (x : Int)), .is (.int .i64 (x : Int)), .is (.pointer (some ⟨w.heap.size, 1, none⟩)), .is (.int .i64 (k : Int)), .is (.bool true), .is (.bool true)] ?_
      simp only [List.toList_toArray]
      iterate 2 (
        refine sq_pure (by rfl) (fun W hb _ => ?_) ?_
        · obtain ⟨y1, y2⟩ := HB0.out.2 W hb
          go_simp
          all_goals first | done | omega
        simp only [Act.put, List.setIfInBounds_toArray, List.set_cons_zero, List.set_cons_succ])
      refine sq_call (f := 35) (args := #[.agg #[.string q, .int .i64 (k : Int)], .string s]) (by rfl) (fun W => by go_simp) (fun W hb _ => QI.out W) ?_
      simp only [Act.put, List.setIfInBounds_toArray, List.set_cons_zero, List.set_cons_succ]
      iterate 12 (
        refine sq_pure (by rfl) (fun W hb _ => ?_) ?_
        · obtain ⟨y1, y2⟩ := HB0.out.2 W hb
          go_simp
          all_goals first | done | omega
        simp only [Act.put, List.setIfInBounds_toArray, List.set_cons_zero, List.set_cons_succ])
      refine sq_end (fun W9 hb9 hK9 => ?_)
      have H9 := Lib.hid (Below.next HB0.out.1 hb9)
      obtain ⟨y1, y2⟩ := HB0.out.2 W9 hb9
      clear hK9 hb9
      go_wp2
      go_ret2
      exact ⟨rfl, H9.out⟩
  · have hf : isS q k s = false := by simpa using his
    rw [hf] at QI
    rw [askV_no (fun h => his (isS_iff.2 h))]
    clear his hf
    go_enter Try.func30, Try.ntmps30
    obtain ⟨W0, hW0⟩ : ∃ W0, W0 = w.alloc (.cells #[.string q, .int .i64 (k : Int)] 31) := ⟨_, rfl⟩
    rw [← hW0] at HB0
    go_upto_region 1 with fail
    rw [← hW0]
    clear hW0
    refine Said.region (by kernel_rfl) (by kernel_rfl) (by kernel_rfl) [.is (.agg #[.string q, .int .i64 (k : Int)]), .is (.string s), .is (.bool false), .is (.bool true), .is (.bool true), .is undef, .is undef, .is undef, .is undef, .is undef, .is undef, .is undef, .is undef, .is undef, .is (.bool true)] ?_
    simp only [List.toList_toArray]
    iterate 2 (
      refine sq_pure (by rfl) (fun W hb _ => ?_) ?_
      · obtain ⟨y1, y2⟩ := HB0.out.2 W hb
        go_simp
        all_goals first | done | omega
      simp only [Act.put, List.setIfInBounds_toArray, List.set_cons_zero, List.set_cons_succ])
    refine sq_call (f := 35) (args := #[.agg #[.string q, .int .i64 (k : Int)], .string s]) (by rfl) (fun W => by go_simp) (fun W hb _ => QI.out W) ?_
    simp only [Act.put, List.setIfInBounds_toArray, List.set_cons_zero, List.set_cons_succ]
    iterate 2 (
      refine sq_pure (by rfl) (fun W hb _ => ?_) ?_
      · skip
        go_simp
        all_goals first | done | omega
      simp only [Act.put, List.setIfInBounds_toArray, List.set_cons_zero, List.set_cons_succ])
    iterate 9 (
      refine sq_struck (by rfl) ?_
      simp only [Act.put, List.setIfInBounds_toArray, List.set_cons_zero, List.set_cons_succ])
    iterate 1 (
      refine sq_pure (by rfl) (fun W hb _ => ?_) ?_
      · skip
        go_simp
        all_goals first | done | omega
      simp only [Act.put, List.setIfInBounds_toArray, List.set_cons_zero, List.set_cons_succ])
    refine sq_end (fun W9 hb9 hK9 => ?_)
    have H9 := Lib.hid (Below.next HB0.out.1 hb9)
    clear hK9 hb9
    go_wp2
    go_ret2
    exact ⟨rfl, H9.out⟩

theorem canB_of {q : ByteArray} {k : Nat} {s : ByteArray} {j : Nat} (h : isS q k s = true) (hj : j < s.size) (hx : (nums s).getD j 0 ≤ k) : canB q k s = true := by
  unfold canB
  rw [h]
  have := minT_le_at (l := nums s) (i := j) (by rw [nums_length]; exact hj)
  simp
  omega
theorem canB_no {q : ByteArray} {k : Nat} {s : ByteArray} (h : isS q k s = true) (hx : ∀ j, j < s.size → ¬ (nums s).getD j 0 ≤ k) : canB q k s = false := by
  unfold canB
  have hz := (isS_iff.1 h).1
  obtain ⟨i, hi, e⟩ := minT_at (l := nums s) (by omega)
  rw [nums_length] at hi
  have := hx i hi
  rw [e] at this
  rw [h, decide_eq_false this]
  rfl
set_option maxHeartbeats 2000000 in
set_option maxRecDepth 100000 in
theorem refCan_any (q s : ByteArray) (k : Nat) (hk : k ≤ 3) (w : World) (hq : q.size ≤ 500) : Calls Try.prog 32 #[refA q k, .string s] w fun e w' => e = .returned (.bool (canB q k s)) ∧ Below w.heap.size w w' := by
  have QI := Lib.hid (fun W => refIs_any q s k hk W hq)
  unfold refA at QI ⊢
  have HB0 : Hid (Below w.heap.size w (w.alloc (.cells #[.string q, .int .i64 (k : Int)] 31)) ∧ ∀ W, Below (w.alloc (.cells #[.string q, .int .i64 (k : Int)] 31)).heap.size (w.alloc (.cells #[.string q, .int .i64 (k : Int)] 31)) W → W.cell? ⟨w.heap.size, 0, none⟩ = some (.string q) ∧ W.cell? ⟨w.heap.size, 1, none⟩ = some (.int .i64 (k : Int))) := Lib.hid ⟨below_alloc w _, fun W hb => box_cells q k w hb⟩
  obtain ⟨ib, hib⟩ : ∃ b, isS q k s = b := ⟨_, rfl⟩
  rw [hib] at QI
  have HIb := Lib.hid hib
  clear hib
  obtain ⟨n, hn⟩ : ∃ n, s.size = n := ⟨_, rfl⟩
  have HN := Lib.hid hn
  go_enter Try.func32, Try.ntmps32
  obtain ⟨W0, hW0⟩ : ∃ W0, W0 = w.alloc (.cells #[.string q, .int .i64 (k : Int)] 31) := ⟨_, rfl⟩
  rw [← hW0] at HB0
  go_wp2
  rw [← hW0]
  clear hW0
  go_loopw [5] (fun s5 wr => ∃ j : Nat, j ≤ n ∧ s5 = .int .i64 (j : Int) ∧ Hid (∀ i, i < j → ¬ (nums s).getD i 0 ≤ k) ∧ Hid (Below W0.heap.size W0 wr) ∧ Hid (0 < j → ib = true)) (fun s5 _ => n - (intOf s5).toNat)
  case atStart => exact ⟨0, Nat.zero_le _, rfl, Lib.hid fun i hi => (by omega), Lib.hid (Below.refl _ _), Lib.hid fun h => (by omega)⟩
  case round =>
    obtain ⟨j, hj, rfl, HJ, HB, HP⟩ := hrel
    obtain ⟨c1, c2⟩ := HB0.out.2 wr HB.out
    by_cases hlt : j < n
    · have d1 : decide ((j : Int) < (n : Int)) = true := decide_eq_true (by omega)
      have d2 : decide (j < n) = true := decide_eq_true hlt
      have il : (j : Int) < (n : Int) := by omega
      cases ib
      · have hf : canB q k s = false := by unfold canB; rw [HIb.out]; rfl
        have HF := Lib.hid hf
        clear hf
        go_wp2_with (go_at_call 35; (with_reducible refine (QI.out wr).mono ?_); rintro e w1 ⟨rfl, hB⟩; have H1 := Lib.hid (Below.next HB.out hB); clear hB)
        go_ret
        exact ⟨by rw [HF.out]; rfl, Below.next HB0.out.1 H1.out⟩
      · have hnb : n ≤ 501 := by
          have h := (isS_iff.1 HIb.out).1
          rw [nums_length, ba_length, HN.out] at h
          omega
        have hsj : ∀ h : j < s.size, (s[j]'h).toNat = (nums s).getD j 0 := fun h => by rw [nums_at s h]
        obtain ⟨x, hx⟩ : ∃ x, (nums s).getD j 0 = x := ⟨_, rfl⟩
        have hx8 : x < 256 := by rw [← hx]; exact nums_lt s j
        rw [hx] at hsj
        have x0 : IntKind.i64.wrap (x : Int) = (x : Int) := IntWalk.i64_in _ (by omega)
        have HX := Lib.hid hx
        clear hx
        by_cases hle : x ≤ k
        · have f1 : decide ((x : Int) ≤ (k : Int)) = true := decide_eq_true (by omega)
          have f2 : decide (x ≤ k) = true := decide_eq_true hle
          have HF := Lib.hid (canB_of (q := q) (k := k) (s := s) (j := j) HIb.out (by rw [HN.out]; exact hlt) (by rw [HX.out]; exact hle))
          clear hle
          go_upto_region 4 with (go_at_call 35; (with_reducible refine (QI.out wr).mono ?_); rintro e w1 ⟨rfl, hB⟩; have H1 := Lib.hid (Below.next HB.out hB); clear hB)
          clear c1 c2
          obtain ⟨c1, c2⟩ := HB0.out.2 w1 H1.out
          go_quiet (fail)
          have HB3 := Lib.hid (below_drewN H1.out nq)
          go_wp2
          go_ret
          exact ⟨by rw [HF.out]; rfl, Below.next HB0.out.1 HB3.out⟩
        · have f1 : decide ((x : Int) ≤ (k : Int)) = false := decide_eq_false (by omega)
          have f2 : decide (x ≤ k) = false := decide_eq_false hle
          have HLE := Lib.hid hle
          clear hle
          go_upto_region 4 with (go_at_call 35; (with_reducible refine (QI.out wr).mono ?_); rintro e w1 ⟨rfl, hB⟩; have H1 := Lib.hid (Below.next HB.out hB); clear hB)
          clear c1 c2
          obtain ⟨c1, c2⟩ := HB0.out.2 w1 H1.out
          go_quiet (fail)
          have HB3 := Lib.hid (below_drewN H1.out nq)
          go_wp2
          go_roundw
          case rel => exact ⟨j + 1, by omega, by go_num, Lib.hid fun i hi => (by
            by_cases e : i = j
            · rw [e, HX.out]; exact HLE.out
            · exact HJ.out i (by omega)), HB3, Lib.hid (by simp)⟩
          case measure => simp [intOf]; omega
    · have d1 : decide ((j : Int) < (n : Int)) = false := decide_eq_false (by omega)
      have d2 : decide (j < n) = false := decide_eq_false hlt
      have hf : canB q k s = false := by
        by_cases h0 : s.size = 0
        · unfold canB isS
          simp [h0]
        · exact canB_no (by rw [HIb.out]; exact HP.out (by have := HN.out; omega)) (fun i hi => HJ.out i (by have := HN.out; omega))
      have HF := Lib.hid hf
      clear hf hlt
      go_wp2
      go_ret
      exact ⟨by rw [HF.out]; rfl, Below.next HB0.out.1 HB.out⟩
end Go.Proofs.Ythgdanbkngnckaa
namespace Go.Proofs.Ythgdanbkngnckaa
open Go.RowKit Go.Shelf Said

set_option maxHeartbeats 2000000 in
set_option maxRecDepth 100000 in
theorem refOther_any (q s : ByteArray) (k : Nat) (hk : k ≤ 3) (w : World) (hq : q.size ≤ 255) : Calls Try.prog 52 #[refA q k, .string s] w fun e w' => ∃ o, e = .returned (.tuple #[.string (StepS q k s o), .bool true]) ∧ o ∉ q.data.toList ∧ Below w.heap.size w w' := by
  have QS := Lib.hid (fun W c => refStep_any q s k hk c W (by omega))
  have HQ := Lib.hid hq
  unfold refA at QS ⊢
  have HB0 : Hid (Below w.heap.size w (w.alloc (.cells #[.string q, .int .i64 (k : Int)] 31)) ∧ ∀ W, Below (w.alloc (.cells #[.string q, .int .i64 (k : Int)] 31)).heap.size (w.alloc (.cells #[.string q, .int .i64 (k : Int)] 31)) W → W.cell? ⟨w.heap.size, 0, none⟩ = some (.string q) ∧ W.cell? ⟨w.heap.size, 1, none⟩ = some (.int .i64 (k : Int))) := Lib.hid ⟨below_alloc w _, fun W hb => box_cells q k w hb⟩
  go_enter Try.func52, Try.ntmps52
  obtain ⟨W0, hW0⟩ : ∃ W0, W0 = w.alloc (.cells #[.string q, .int .i64 (k : Int)] 31) := ⟨_, rfl⟩
  rw [← hW0] at HB0
  go_wp2
  rw [← hW0]
  clear hW0
  go_loopw [6] (fun s6 wr => ∃ b : Nat, b ≤ 256 ∧ s6 = .int .i64 (b : Int) ∧ Hid (∀ i, i < b → UInt8.ofNat i ∈ q.data.toList) ∧ Hid (Below W0.heap.size W0 wr)) (fun s6 _ => 256 - (intOf s6).toNat)
  case atStart => exact ⟨0, by omega, rfl, Lib.hid fun i hi => (by omega), Lib.hid (Below.refl _ _)⟩
  case round =>
    obtain ⟨b, hb, rfl, HJ, HB⟩ := hrel
    by_cases hlt : b < 256
    · have e1 : decide ((b : Int) < 256) = true := decide_eq_true (by omega)
      have e2 : decide (b < 256) = true := decide_eq_true hlt
      obtain ⟨wz, hwz⟩ : ∃ wz, wz = wr := ⟨_, rfl⟩
      subst hwz
      go_wp2
      have w8 : IntKind.u8.wrap (b : Int) = (b : Int) := IntWalk.u8_in _ (by omega)
      obtain ⟨c, hc⟩ : ∃ c, UInt8.ofNat b = c := ⟨_, rfl⟩
      have hcb : c.toNat = b := by rw [← hc]; simp; omega
      have HCb := Lib.hid (And.intro hc hcb)
      clear hc
      go_loopw [7, 8] (fun s7 s8 wr => ∃ i : Nat, i ≤ q.size ∧ s8 = .int .i64 (i : Int) ∧ s7 = .bool (decide (c ∈ q.data.toList.take i)) ∧ Hid (Below W0.heap.size W0 wr)) (fun _ s8 _ => q.size - (intOf s8).toNat)
      case atStart => exact ⟨0, Nat.zero_le _, rfl, by simp, HB⟩
      case round =>
        obtain ⟨i, hi, rfl, rfl, HB2⟩ := hrel
        obtain ⟨c1, c2⟩ := HB0.out.2 wr HB2.out
        by_cases hit : i < q.size
        · have f1 : decide ((i : Int) < (q.size : Int)) = true := decide_eq_true (by omega)
          have f2 : decide (i < q.size) = true := decide_eq_true hit
          have il : (i : Int) < (q.size : Int) := by omega
          have htk := take_snoc q i hit
          by_cases hin : c ∈ q.data.toList.take i
          · rw [decide_eq_true hin]
            have hin2 : decide (c ∈ q.data.toList.take (i + 1)) = true := decide_eq_true (by rw [htk]; exact List.mem_append_left _ hin)
            have HIn := Lib.hid hin2
            clear hin hin2 htk
            go_wp2
            go_roundw
            case rel => exact ⟨i + 1, by omega, by go_num, by rw [HIn.out], HB2⟩
            case measure => simp [intOf]; omega
          · rw [decide_eq_false hin]
            obtain ⟨x, hx⟩ : ∃ x, q[i] = x := ⟨_, rfl⟩
            by_cases hxc : x = c
            · have g1 : ((x.toNat : Int) == (b : Int)) = true := by rw [hxc, hcb]; simp
              have g2 : (x.toNat == b) = true := by rw [hxc, hcb]; simp
              have hin2 : decide (c ∈ q.data.toList.take (i + 1)) = true := decide_eq_true (by rw [htk, hx, hxc]; simp)
              have HIn := Lib.hid hin2
              clear hin hin2 htk hxc hcb
              go_wp2
              go_roundw
              case rel => exact ⟨i + 1, by omega, by go_num, by rw [HIn.out], HB2⟩
              case measure => simp [intOf]; omega
            · have hne : x.toNat ≠ b := fun e => hxc (UInt8.toNat_inj.1 (by rw [e, hcb]))
              have g1 : ((x.toNat : Int) == (b : Int)) = false := by simp; omega
              have g2 : (x.toNat == b) = false := by simp; omega
              have hin2 : decide (c ∈ q.data.toList.take (i + 1)) = false := decide_eq_false (by
                rw [htk, hx]
                intro h
                rcases List.mem_append.1 h with h | h
                · exact hin h
                · exact hxc (List.mem_singleton.1 h).symm)
              have HIn := Lib.hid hin2
              clear hin hin2 htk hxc hne hcb
              go_wp2
              go_roundw
              case rel => exact ⟨i + 1, by omega, by go_num, by rw [HIn.out], HB2⟩
              case measure => simp [intOf]; omega
        · have f1 : decide ((i : Int) < (q.size : Int)) = false := decide_eq_false (by omega)
          have f2 : decide (i < q.size) = false := decide_eq_false hit
          rw [show i = q.size by omega, take_all]
          clear hit
          by_cases hin : c ∈ q.data.toList
          · rw [decide_eq_true hin]
            have HIn := Lib.hid hin
            clear hin hcb
            go_wp2
            go_roundw
            case rel => exact ⟨b + 1, by omega, by go_num, Lib.hid fun j hj => (by
              by_cases e : j = b
              · rw [e, HCb.out.1]; exact HIn.out
              · exact HJ.out j (by omega)), HB2⟩
            case measure => simp [intOf]; omega
          · rw [decide_eq_false hin]
            have HIn := Lib.hid hin
            have Q2 := Lib.hid (QS.out wr c)
            rw [hcb] at Q2
            clear hin hcb
            go_wp2_with (go_at_call 17; (with_reducible refine Q2.out.mono ?_); rintro e w9 ⟨rfl, hB⟩; have H9 := Lib.hid (Below.next HB2.out hB); clear hB)
            go_ret2
            exact ⟨c, rfl, HIn.out, Below.next HB0.out.1 H9.out⟩
    · exact (not_all (q := q.data.toList) (by rw [ba_length]; exact HQ.out) (fun i hi => HJ.out i (by omega))).elim
end Go.Proofs.Ythgdanbkngnckaa
namespace Go.Proofs.Ythgdanbkngnckaa
open Go.RowKit Go.Shelf Said

/-- The bytes that are told, among the first b ones. -/
def tellsK (q : List UInt8) (k : Nat) (r : List Nat) (o : UInt8) (b : Nat) : List UInt8 := ((List.range b).map UInt8.ofNat).filter fun x => decide (x ∈ q ∧ stepL q k r x ≠ stepL q k r o)
theorem tellsK_all (q : List UInt8) (k : Nat) (r : List Nat) (o : UInt8) : tellsK q k r o 256 = tellsT q k r o := rfl
theorem tellsK_yes {q : List UInt8} {k : Nat} {r : List Nat} {o : UInt8} {b : Nat} (h : TellsB q k r o (UInt8.ofNat b)) : tellsK q k r o (b + 1) = tellsK q k r o b ++ [UInt8.ofNat b] := by
  unfold tellsK
  rw [List.range_succ, List.map_append, List.filter_append]
  congr 1
  show ([UInt8.ofNat b].filter _) = _
  rw [List.filter_cons_of_pos (by exact decide_eq_true h)]
  rfl
theorem tellsK_no {q : List UInt8} {k : Nat} {r : List Nat} {o : UInt8} {b : Nat} (h : ¬ TellsB q k r o (UInt8.ofNat b)) : tellsK q k r o (b + 1) = tellsK q k r o b := by
  unfold tellsK
  rw [List.range_succ, List.map_append, List.filter_append]
  show _ ++ ([UInt8.ofNat b].filter _) = _
  rw [List.filter_cons_of_neg (by simpa using (show ¬ (UInt8.ofNat b ∈ q ∧ stepL q k r (UInt8.ofNat b) ≠ stepL q k r o) from h))]
  simp
theorem tellsK_len (q : List UInt8) (k : Nat) (r : List Nat) (o : UInt8) (b : Nat) : (tellsK q k r o b).length ≤ b := by
  unfold tellsK
  refine Nat.le_trans (List.length_filter_le _ _) ?_
  simp
theorem app_below {a w9 w' : World} {c : Array Value} {t : TypeId} {row : Option Nat} (h : Below a.heap.size a w9) (hg : (w9.alloc (.cells c t)).grownBy w' row) (hr : ∀ g, row = some g → a.heap.size ≤ g) : Below a.heap.size a w' :=
  (Below.next h (below_alloc w9 _)).grown hg (Below.next h (below_alloc w9 _)).size (fun g e => hr g e)

set_option maxHeartbeats 4000000 in
set_option maxRecDepth 100000 in
theorem refBytes_any (q s : ByteArray) (k : Nat) (hk : k ≤ 3) (w : World) (hq : q.size ≤ 255) (hs : isS q k s = true) : Calls Try.prog 31 #[refA q k, .string s] w (Told w q.data.toList k (nums s)) := by
  have QI := Lib.hid (fun W => refIs_any q s k hk W (by omega))
  have QO := Lib.hid (fun W => refOther_any q s k hk W hq)
  have QS := Lib.hid (fun W c => refStep_any q s k hk c W (by omega))
  have QC := Lib.hid (fun W s => refCan_any q s k hk W (by omega))
  rw [hs] at QI
  have HIs := Lib.hid hs
  have HK := Lib.hid hk
  clear hs
  unfold refA at QI QO QS QC ⊢
  have HB0 : Hid (Below w.heap.size w (w.alloc (.cells #[.string q, .int .i64 (k : Int)] 31)) ∧ ∀ W, Below (w.alloc (.cells #[.string q, .int .i64 (k : Int)] 31)).heap.size (w.alloc (.cells #[.string q, .int .i64 (k : Int)] 31)) W → W.cell? ⟨w.heap.size, 0, none⟩ = some (.string q) ∧ W.cell? ⟨w.heap.size, 1, none⟩ = some (.int .i64 (k : Int))) := Lib.hid ⟨below_alloc w _, fun W hb => box_cells q k w hb⟩
  go_enter Try.func31, Try.ntmps31
  obtain ⟨W0, hW0⟩ : ∃ W0, W0 = w.alloc (.cells #[.string q, .int .i64 (k : Int)] 31) := ⟨_, rfl⟩
  rw [← hW0] at HB0
  obtain ⟨y1, y2⟩ := HB0.out.2 W0 (Below.refl _ _)
  rw [hW0] at y1 y2
  go_wp2_with (rw [← hW0]; go_at_call 52; (with_reducible refine (QO.out W0).mono ?_); rintro e w1 ⟨o, rfl, ho, hB⟩; have HOth := Lib.hid ho; have H1 := Lib.hid hB; clear hB ho)
  clear y1 y2 hW0
  obtain ⟨AW, hAW⟩ : ∃ A, StepS q k s o = A := ⟨_, rfl⟩
  have hAW2 : bin (stepL q.data.toList k (nums s) o) = AW := by rw [← hAW, StepS, if_pos HIs.out]
  rw [hAW]
  have HAW := Lib.hid hAW2
  clear hAW hAW2
  go_loopw [6, 9] (fun s6 s9 wr => ∃ (b m : Nat) (ad : Option Addr) (cp : Nat), b ≤ 256 ∧ s9 = .int .i64 (b : Int) ∧ s6 = .slice ad m cp ∧ Hid (wr.ownsRow W0.heap.size 5 1 (.slice ad m cp) m ((tellsK q.data.toList k (nums s) o b).map enc8)) ∧ Hid (Below W0.heap.size W0 wr) ∧ Hid ((tellsK q.data.toList k (nums s) o b).length = m)) (fun _ s9 _ => 256 - (intOf s9).toNat)
  case atStart => exact ⟨0, 0, none, 0, by omega, rfl, rfl, Lib.hid (World.ownsRow_nil w1 W0.heap.size 5 1), H1, Lib.hid rfl⟩
  case round =>
    obtain ⟨b, m, ad, cp, hb, rfl, rfl, HO, HB, HM⟩ := hrel
    obtain ⟨c1, c2⟩ := HB0.out.2 wr HB.out
    by_cases hlt : b < 256
    · have e1 : decide ((b : Int) < 256) = true := decide_eq_true (by omega)
      have e2 : decide (b < 256) = true := decide_eq_true hlt
      obtain ⟨wz, hwz⟩ : ∃ wz, wz = wr := ⟨_, rfl⟩
      subst hwz
      go_wp2_with (go_at_call 35; (with_reducible refine (QI.out _).mono ?_); rintro e w5 ⟨rfl, hB⟩; have H5 := Lib.hid (Below.next HB.out hB); have HMid0 := Lib.hid hB; clear hB)
      clear c1 c2
      have w8 : IntKind.u8.wrap (b : Int) = (b : Int) := IntWalk.u8_in _ (by omega)
      obtain ⟨c, hc⟩ : ∃ c, UInt8.ofNat b = c := ⟨_, rfl⟩
      have hcb : c.toNat = b := by rw [← hc]; simp; omega
      have HCb := Lib.hid (And.intro hc hcb)
      clear hc
      go_loopw [10, 11] (fun s10 s11 wr => ∃ i : Nat, i ≤ q.size ∧ s11 = .int .i64 (i : Int) ∧ s10 = .bool (decide (c ∈ q.data.toList.take i)) ∧ Hid (Below wz.heap.size wz wr)) (fun _ s11 _ => q.size - (intOf s11).toNat)
      case atStart => exact ⟨0, Nat.zero_le _, rfl, by simp, HMid0⟩
      case round =>
        obtain ⟨i, hi, rfl, rfl, HB2⟩ := hrel
        obtain ⟨c1, c2⟩ := HB0.out.2 wr (Below.next HB.out HB2.out)
        by_cases hit : i < q.size
        · have f1 : decide ((i : Int) < (q.size : Int)) = true := decide_eq_true (by omega)
          have f2 : decide (i < q.size) = true := decide_eq_true hit
          have il : (i : Int) < (q.size : Int) := by omega
          have htk := take_snoc q i hit
          by_cases hin : c ∈ q.data.toList.take i
          · rw [decide_eq_true hin]
            have hin2 : decide (c ∈ q.data.toList.take (i + 1)) = true := decide_eq_true (by rw [htk]; exact List.mem_append_left _ hin)
            have HIn := Lib.hid hin2
            clear hin hin2 htk
            go_wp2
            go_roundw
            case rel => exact ⟨i + 1, by omega, by go_num, by rw [HIn.out], HB2⟩
            case measure => simp [intOf]; omega
          · rw [decide_eq_false hin]
            obtain ⟨x, hx⟩ : ∃ x, q[i] = x := ⟨_, rfl⟩
            by_cases hxc : x = c
            · have g1 : ((x.toNat : Int) == (b : Int)) = true := by rw [hxc, hcb]; simp
              have g2 : (x.toNat == b) = true := by rw [hxc, hcb]; simp
              have hin2 : decide (c ∈ q.data.toList.take (i + 1)) = true := decide_eq_true (by rw [htk, hx, hxc]; simp)
              have HIn := Lib.hid hin2
              clear hin hin2 htk hxc hcb
              go_wp2
              go_roundw
              case rel => exact ⟨i + 1, by omega, by go_num, by rw [HIn.out], HB2⟩
              case measure => simp [intOf]; omega
            · have hne : x.toNat ≠ b := fun e => hxc (UInt8.toNat_inj.1 (by rw [e, hcb]))
              have g1 : ((x.toNat : Int) == (b : Int)) = false := by simp; omega
              have g2 : (x.toNat == b) = false := by simp; omega
              have hin2 : decide (c ∈ q.data.toList.take (i + 1)) = false := decide_eq_false (by
                rw [htk, hx]
                intro h
                rcases List.mem_append.1 h with h | h
                · exact hin h
                · exact hxc (List.mem_singleton.1 h).symm)
              have HIn := Lib.hid hin2
              clear hin hin2 htk hxc hne hcb
              go_wp2
              go_roundw
              case rel => exact ⟨i + 1, by omega, by go_num, by rw [HIn.out], HB2⟩
              case measure => simp [intOf]; omega
        · have f1 : decide ((i : Int) < (q.size : Int)) = false := decide_eq_false (by omega)
          have f2 : decide (i < q.size) = false := decide_eq_false hit
          rw [show i = q.size by omega, take_all]
          clear hit
          by_cases hin : c ∈ q.data.toList
          · rw [decide_eq_true hin]
            have Q2 := Lib.hid (QS.out wr c)
            rw [hcb] at Q2
            by_cases hst : stepL q.data.toList k (nums s) c = stepL q.data.toList k (nums s) o
            · rw [show StepS q k s c = AW by rw [StepS, if_pos HIs.out, hst]; exact HAW.out] at Q2
              have hnt : ¬ TellsB q.data.toList k (nums s) o c := fun h => h.2 hst
              have HNt := Lib.hid hnt
              clear hin hst hnt hcb
              go_wp2_with (go_at_call 17; (with_reducible refine Q2.out.mono ?_); rintro e w9 ⟨rfl, hB⟩; have H9 := Lib.hid (Below.next HB2.out hB); clear hB)
              go_roundw
              case rel => exact ⟨b + 1, m, ad, cp, by omega, by go_num, rfl, Lib.hid (by rw [tellsK_no (by rw [HCb.out.1]; exact HNt.out)]; exact row_below HO.out H9.out), Lib.hid (Below.next HB.out H9.out), Lib.hid (by rw [tellsK_no (by rw [HCb.out.1]; exact HNt.out)]; exact HM.out)⟩
              case measure => simp [intOf]; omega
            · obtain ⟨TO, hTO⟩ : ∃ TO, StepS q k s c = TO := ⟨_, rfl⟩
              rw [hTO] at Q2
              have hneq : TO ≠ AW := fun e => hst (bin_inj HK.out (stepL_is _ _ _ _) (stepL_is _ _ _ _) (by
                rw [← hTO, StepS, if_pos HIs.out, ← HAW.out] at e
                rw [e]))
              have hneq2 : (TO.toList == AW.toList) = false := by rw [toList_beq]; exact decide_eq_false hneq
              have HNt : Hid (TellsB q.data.toList k (nums s) o c) := Lib.hid ⟨hin, hst⟩
              have hm256 := tellsK_len q.data.toList k (nums s) o b
              rw [HM.out] at hm256
              clear hin hst hcb hTO hneq
              go_wp2_with (first
                | (go_at_call 17; (with_reducible refine Q2.out.mono ?_); rintro e w9 ⟨rfl, hB⟩; have H9 := Lib.hid (Below.next HB2.out hB); clear hB)
                | (at_builtin; refine wpList_append_u8 rfl _ _ rfl rfl W0.heap.size (.slice ad m cp) m _ ⟨w9.heap.size, 0, none⟩ 1 (b : Int) rfl rfl (by simp [go_sem]) ((row_below HO.out H9.out).alloc _) (by omega) (by have := (Below.next HB.out H9.out).size; simp; omega) (fun v' w' hown hg hor => ?_); obtain ⟨ad', cp', rfl⟩ := owns_slice hown; have HW := Lib.hid (And.intro hown (app_below (Below.next HB.out H9.out) hg (fun g e => (owns_cells ((row_below HO.out H9.out).alloc (.cells #[.int .u8 (b : Int)] 5)) g e).1))); clear hown hg hor))
              go_roundw
              case rel => exact ⟨b + 1, m + 1, ad', cp', by omega, by go_num, rfl, Lib.hid (by
                have h := HW.out.1
                rw [tellsK_yes (by rw [HCb.out.1]; exact HNt.out), List.map_append]
                have e : [UInt8.ofNat b].map enc8 = [.int .u8 (b : Int)] := by rw [HCb.out.1]; simp [enc8, HCb.out.2]
                rw [e]
                exact h), Lib.hid HW.out.2, Lib.hid (by rw [tellsK_yes (by rw [HCb.out.1]; exact HNt.out), List.length_append, HM.out]; rfl)⟩
              case measure => simp [intOf]; omega
          · rw [decide_eq_false hin]
            have hnt : ¬ TellsB q.data.toList k (nums s) o c := fun h => hin h.1
            have HNt := Lib.hid hnt
            clear hin hcb hnt
            go_wp2
            go_roundw
            case rel => exact ⟨b + 1, m, ad, cp, by omega, by go_num, rfl, Lib.hid (by rw [tellsK_no (by rw [HCb.out.1]; exact HNt.out)]; exact row_below HO.out HB2.out), Lib.hid (Below.next HB.out HB2.out), Lib.hid (by rw [tellsK_no (by rw [HCb.out.1]; exact HNt.out)]; exact HM.out)⟩
            case measure => simp [intOf]; omega
    · have hb6 : b = 256 := by omega
      have e1 : decide ((b : Int) < 256) = false := decide_eq_false (by omega)
      have e2 : decide (b < 256) = false := decide_eq_false hlt
      have hr := HO.out
      have hm := HM.out
      rw [hb6, tellsK_all] at hr hm
      have hcan : canB q k AW = decide (minT (stepL q.data.toList k (nums s) o) ≤ k) := by
        rw [← HAW.out, canB, isS_iff.2 (by rw [nums_of (stepL_is _ _ _ _) HK.out]; exact stepL_is _ _ _ _), nums_of (stepL_is _ _ _ _) HK.out]
        rfl
      have Q3 := Lib.hid (QC.out wr AW)
      rw [hcan] at Q3
      have HR := Lib.hid hr
      have HMm := Lib.hid hm
      clear hb6 hlt hr hm hcan
      go_wp2_with (go_at_call 32; (with_reducible refine Q3.out.mono ?_); rintro e w9 ⟨rfl, hB⟩; have H9 := Lib.hid hB; clear hB)
      go_ret2
      exact ⟨_, o, rfl, HOth.out, by rw [HMm.out]; exact ownsRow_down (row_below HR.out H9.out) HB0.out.1.size, Below.next HB0.out.1 (Below.next HB.out H9.out)⟩

theorem size_none : (ByteArray.mk #[]).size = 0 := rfl
set_option maxHeartbeats 2000000 in
set_option maxRecDepth 100000 in
theorem refBytes_not (q s : ByteArray) (k : Nat) (hk : k ≤ 3) (w : World) (hq : q.size ≤ 255) (hs : isS q k s = false) : Calls Try.prog 31 #[refA q k, .string s] w fun e w' => e = .returned (.tuple #[.slice none 0 0, .bool false]) ∧ Below w.heap.size w w' := by
  have QI := Lib.hid (fun W => refIs_any q s k hk W (by omega))
  have QO := Lib.hid (fun W => refOther_any q s k hk W hq)
  have QC := Lib.hid (fun W => refCan_any q ⟨#[]⟩ k hk W (by omega))
  have hst : ∀ o, StepS q k s o = ⟨#[]⟩ := fun o => by rw [StepS, if_neg (by rw [hs]; simp)]
  have hc : canB q k ⟨#[]⟩ = false := by
    unfold canB isS
    rw [size_none]
    simp
  rw [hs] at QI
  rw [hc] at QC
  have HSt := Lib.hid hst
  clear hs hst hc
  unfold refA at QI QO QC ⊢
  have HB0 : Hid (Below w.heap.size w (w.alloc (.cells #[.string q, .int .i64 (k : Int)] 31)) ∧ ∀ W, Below (w.alloc (.cells #[.string q, .int .i64 (k : Int)] 31)).heap.size (w.alloc (.cells #[.string q, .int .i64 (k : Int)] 31)) W → W.cell? ⟨w.heap.size, 0, none⟩ = some (.string q) ∧ W.cell? ⟨w.heap.size, 1, none⟩ = some (.int .i64 (k : Int))) := Lib.hid ⟨below_alloc w _, fun W hb => box_cells q k w hb⟩
  go_enter Try.func31, Try.ntmps31
  obtain ⟨W0, hW0⟩ : ∃ W0, W0 = w.alloc (.cells #[.string q, .int .i64 (k : Int)] 31) := ⟨_, rfl⟩
  rw [← hW0] at HB0
  obtain ⟨y1, y2⟩ := HB0.out.2 W0 (Below.refl _ _)
  rw [hW0] at y1 y2
  go_wp2_with (rw [← hW0]; go_at_call 52; (with_reducible refine (QO.out W0).mono ?_); rintro e w1 ⟨o, rfl, -, hB⟩; have H1 := Lib.hid hB; clear hB)
  clear y1 y2 hW0
  rw [HSt.out o]
  obtain ⟨c1, c2⟩ := HB0.out.2 w1 H1.out
  refine wp_loop_rounds 1 ?_
  rw [rounds_succ]
  go_wp2_with (first
    | (go_at_call 35; (with_reducible refine (QI.out w1).mono ?_); rintro e w2 ⟨rfl, hB⟩; have H2 := Lib.hid (Below.next H1.out hB); clear hB c1 c2; obtain ⟨c1, c2⟩ := HB0.out.2 w2 H2.out)
    | (go_at_call 32; (with_reducible refine (QC.out w2).mono ?_); rintro e w3 ⟨rfl, hB⟩; have H3 := Lib.hid (Below.next H2.out hB); clear hB))
  go_ret2
  exact ⟨rfl, Below.next HB0.out.1 H3.out⟩
end Go.Proofs.Ythgdanbkngnckaa
namespace Go.Proofs.Ythgdanbkngnckaa
open Go.RowKit Go.Shelf Said

theorem tells_bound (q : List UInt8) (k : Nat) (r : List Nat) (o : UInt8) (hq : q.length ≤ 60) : (tellsT q k r o).length < 300 := by
  have h := sub_len (tellsT q k r o) q ((tellsT_rising _ _ _ _).imp fun h e => by subst e; omega) (fun x hx => ((tellsT_mem _ _ _ _ _).1 hx).1)
  omega
set_option maxHeartbeats 4000000 in
set_option maxRecDepth 100000 in
theorem law_state {q s : ByteArray} {p k : Nat} {w : World} (hA : AutoAt w p q k) (hk : k ≤ 3) (hq : q.size ≤ 60) (hz : s.size ≤ 100000) :
    Calls Try.prog 15 #[.pointer (some ⟨p, 0, none⟩), refA q k, .string s] w fun e w' => e = .returned (.bool true) ∧ Below w.heap.size w w' := by
  have QRD := Lib.hid (fun W => refDist_any q s k hk W (by omega))
  have QRC := Lib.hid (fun W => refCan_any q s k hk W (by omega))
  have QRB := Lib.hid (fun W h => refBytes_any q s k hk W (by omega) h)
  have QRN := Lib.hid (fun W h => refBytes_not q s k hk W (by omega) h)
  unfold refA at QRD QRC QRB QRN ⊢
  have HB0 : Hid (Below w.heap.size w (w.alloc (.cells #[.string q, .int .i64 (k : Int)] 31)) ∧ ∀ W, Below (w.alloc (.cells #[.string q, .int .i64 (k : Int)] 31)).heap.size (w.alloc (.cells #[.string q, .int .i64 (k : Int)] 31)) W → W.cell? ⟨w.heap.size, 0, none⟩ = some (.string q) ∧ W.cell? ⟨w.heap.size, 1, none⟩ = some (.int .i64 (k : Int))) := Lib.hid ⟨below_alloc w _, fun W hb => box_cells q k w hb⟩
  have hA0 := hA.below HB0.out.1
  obtain ⟨W0, hW0⟩ : ∃ W0, W0 = w.alloc (.cells #[.string q, .int .i64 (k : Int)] 31) := ⟨_, rfl⟩
  rw [← hW0] at HB0 hA0
  have QD := Lib.hid (fun W (hb : Below W0.heap.size W0 W) => dist_lev (s := s) (hA0.below hb) hk (by omega) (by omega))
  have QC := Lib.hid (fun W (hb : Below W0.heap.size W0 W) => Can_lev (s := s) (hA0.below hb) hk (by omega) (by omega))
  have HA := Lib.hid hA0
  obtain ⟨U, b, hUb⟩ : ∃ U b, askV q k s (wholeL (nums s)) = .tuple #[.int .i64 U, .bool b] := by unfold askV; split <;> exact ⟨_, _, rfl⟩
  rw [hUb] at QD QRD
  obtain ⟨cb, hcb⟩ : ∃ b, canB q k s = b := ⟨_, rfl⟩
  rw [hcb] at QC QRC
  clear hA hA0 hUb hcb
  by_cases his : isS q k s = true
  · have hs := isS_iff.1 his
    have QB := Lib.hid (fun W (hb : Below W0.heap.size W0 W) => bytes_any (HA.out.below hb) hk (by omega) hs (fun o ho => tells_bound q.data.toList k (nums s) o (by rw [ba_length]; omega)))
    have QB2 := Lib.hid (fun W => QRB.out W his)
    clear his hs QRB QRN
    obtain ⟨y1, y2⟩ := HB0.out.2 W0 (Below.refl _ _)
    rw [hW0] at y1 y2
    go_enter Try.func15, Try.ntmps15
    go_upto_region 3 with (first
    | (rw [← hW0]; go_at_call 21; (with_reducible refine (QD.out W0 (Below.refl _ _)).mono ?_); rintro e w1 ⟨rfl, hB⟩; have H1 := Lib.hid hB; clear hB y1 y2; obtain ⟨y1, y2⟩ := HB0.out.2 w1 H1.out)
    | (go_at_call 30; (with_reducible refine (QRD.out w1).mono ?_); rintro e w2 ⟨rfl, hB⟩; have H2 := Lib.hid (Below.next H1.out hB); clear hB))
    clear y1 y2 hW0
    go_upto_region 4 with (go_at_call 24; (with_reducible refine (QB.out w2 H2.out).mono ?_); rintro e w3 ⟨V1, o1, rfl, ho1, hr1, hB⟩; have HR1 := Lib.hid (And.intro ho1 hr1); have H3 := Lib.hid (Below.next H2.out hB); clear ho1 hr1 hB)
    obtain ⟨y1, y2⟩ := HB0.out.2 w3 H3.out
    go_upto_region 5 with (go_at_call 31; (with_reducible refine (QB2.out w3).mono ?_); rintro e w4 ⟨V2, o2, rfl, ho2, hr2, hB⟩; have HR2 := Lib.hid (And.intro ho2 (And.intro hr2 hB)); have HB4 := Lib.hid (Below.next H3.out hB); clear ho2 hr2 hB)
    clear y1 y2
    rw [step_foreign HR2.out.1 HR1.out.1]
    have hr2 := HR2.out.2.1
    rw [tellsT_foreign _ _ _ HR2.out.1 HR1.out.1] at hr2
    have hr1 := HR1.out.2
    have hB34 := HR2.out.2.2
    obtain ⟨mo, hmo⟩ : ∃ b, decide (minT (stepL q.data.toList k (nums s) o1) ≤ k) = b := ⟨_, rfl⟩
    rw [hmo]
    obtain ⟨L, hL⟩ : ∃ L, tellsT q.data.toList k (nums s) o1 = L := ⟨_, rfl⟩
    rw [hL] at hr1 hr2
    obtain ⟨Z, hZ⟩ : ∃ Z, (⟨L.toArray⟩ : ByteArray) = Z := ⟨_, rfl⟩
    have HX : Hid (∀ W, Below w4.heap.size w4 W → W.cell? ⟨w.heap.size, 0, none⟩ = some (.string q) ∧ W.cell? ⟨w.heap.size, 1, none⟩ = some (.int .i64 (k : Int)) ∧ (convert 38 9 V1).run Try.prog W = .ok (.string Z) W ∧ (convert 38 9 V2).run Try.prog W = .ok (.string Z) W) := Lib.hid fun W hb => by
      obtain ⟨z1, z2⟩ := HB0.out.2 W (Below.next HB4.out hb)
      rw [← hZ]
      exact ⟨z1, z2, row_str (row_below hr1 (Below.next hB34 hb)) _ Try.underlying9, row_str (row_below hr2 hb) _ Try.underlying9⟩
    clear hr1 hr2 hB34 hL hZ hmo HR1 HR2 H1 H2 H3 QB QB2
    go_upto_region 5 with fail
    refine Said.region (by kernel_rfl) (by kernel_rfl) (by kernel_rfl) [.is (.int .i64 U), .is (.int .i64 U), .is (.bool true), .is (.bool true), .is (.bool b), .is (.bool b), .is (.bool true), .is (.bool true), .is (.bool true), .is (.pointer (some ⟨p, 0, none⟩)), .is (.string s), .is (.bool cb), .is (.agg #[.string q, .int .i64 (k : Int)]), .is (.string s), .is (.bool cb), .is (.bool true), .is (.bool true), .is (.bool true), .is V1, .is (.string Z), .is V2, .is (.string Z), .is (.bool true), .is (.bool true), .is (.bool true), .is (.bool mo), .is (.bool mo), .is (.bool true), .is (.bool true), .is (.bool true)] ?_
    simp only [List.toList_toArray]
    iterate 11 (
      refine sq_pure (by rfl) (fun W hb _ => ?_) ?_
      · obtain ⟨y1, y2, y3, y4⟩ := HX.out W hb
        go_simp
        all_goals first | done | omega
      simp only [Act.put, List.setIfInBounds_toArray, List.set_cons_zero, List.set_cons_succ])
    refine sq_call (f := 23) (args := #[.pointer (some ⟨p, 0, none⟩), .string s]) (by rfl) (fun W => by go_simp) (fun W hb _ => QC.out W (Below.next HB4.out hb)) ?_
    simp only [Act.put, List.setIfInBounds_toArray, List.set_cons_zero, List.set_cons_succ]
    iterate 2 (
      refine sq_pure (by rfl) (fun W hb _ => ?_) ?_
      · obtain ⟨y1, y2, y3, y4⟩ := HX.out W hb
        go_simp
        all_goals first | done | omega
      simp only [Act.put, List.setIfInBounds_toArray, List.set_cons_zero, List.set_cons_succ])
    refine sq_call (f := 32) (args := #[.agg #[.string q, .int .i64 (k : Int)], .string s]) (by rfl) (fun W => by go_simp) (fun W hb _ => QRC.out W) ?_
    simp only [Act.put, List.setIfInBounds_toArray, List.set_cons_zero, List.set_cons_succ]
    iterate 15 (
      refine sq_pure (by rfl) (fun W hb _ => ?_) ?_
      · obtain ⟨y1, y2, y3, y4⟩ := HX.out W hb
        go_simp
        all_goals first | done | omega
      simp only [Act.put, List.setIfInBounds_toArray, List.set_cons_zero, List.set_cons_succ])
    refine sq_end (fun w9 hb9 hK9 => ?_)
    have H9 := Lib.hid (Below.next HB4.out hb9)
    clear hK9 hb9
    go_wp2
    go_ret
    exact ⟨rfl, Below.next HB0.out.1 H9.out⟩
  · have hf : isS q k s = false := by simpa using his
    have QB := Lib.hid (fun W (hb : Below W0.heap.size W0 W) => bytes_not (s := s) (HA.out.below hb) hk (by omega) (by omega) (fun h => his (isS_iff.2 h)))
    have QB2 := Lib.hid (fun W => QRN.out W hf)
    clear his hf QRB QRN
    obtain ⟨y1, y2⟩ := HB0.out.2 W0 (Below.refl _ _)
    rw [hW0] at y1 y2
    go_enter Try.func15, Try.ntmps15
    go_upto_region 3 with (first
    | (rw [← hW0]; go_at_call 21; (with_reducible refine (QD.out W0 (Below.refl _ _)).mono ?_); rintro e w1 ⟨rfl, hB⟩; have H1 := Lib.hid hB; clear hB y1 y2; obtain ⟨y1, y2⟩ := HB0.out.2 w1 H1.out)
    | (go_at_call 30; (with_reducible refine (QRD.out w1).mono ?_); rintro e w2 ⟨rfl, hB⟩; have H2 := Lib.hid (Below.next H1.out hB); clear hB))
    clear y1 y2 hW0
    go_upto_region 4 with (go_at_call 24; (with_reducible refine (QB.out w2 H2.out).mono ?_); rintro e w3 ⟨rfl, hB⟩; have H3 := Lib.hid (Below.next H2.out hB); clear hB)
    obtain ⟨y1, y2⟩ := HB0.out.2 w3 H3.out
    go_upto_region 5 with (go_at_call 31; (with_reducible refine (QB2.out w3).mono ?_); rintro e w4 ⟨rfl, hB⟩; have HB4 := Lib.hid (Below.next H3.out hB); clear hB)
    clear y1 y2
    obtain ⟨mo, hmo⟩ : ∃ b, false = b := ⟨_, rfl⟩
    have HX : Hid (∀ W, Below w4.heap.size w4 W → W.cell? ⟨w.heap.size, 0, none⟩ = some (.string q) ∧ W.cell? ⟨w.heap.size, 1, none⟩ = some (.int .i64 (k : Int)) ∧ (convert 38 9 (.slice none 0 0)).run Try.prog W = .ok (.string ⟨#[]⟩) W ∧ (convert 38 9 (.slice none 0 0)).run Try.prog W = .ok (.string ⟨#[]⟩) W) := Lib.hid fun W hb => by
      obtain ⟨z1, z2⟩ := HB0.out.2 W (Below.next HB4.out hb)
      exact ⟨z1, z2, run_convert_bytes_nil (P := Try.prog) W 38 5 Try.underlying38 Try.underlying5 0 0 _ Try.underlying9, run_convert_bytes_nil (P := Try.prog) W 38 5 Try.underlying38 Try.underlying5 0 0 _ Try.underlying9⟩
    clear H1 H2 H3 QB QB2 hmo
    go_upto_region 5 with fail
    refine Said.region (by kernel_rfl) (by kernel_rfl) (by kernel_rfl) [.is (.int .i64 U), .is (.int .i64 U), .is (.bool true), .is (.bool true), .is (.bool b), .is (.bool b), .is (.bool true), .is (.bool true), .is (.bool true), .is (.pointer (some ⟨p, 0, none⟩)), .is (.string s), .is (.bool cb), .is (.agg #[.string q, .int .i64 (k : Int)]), .is (.string s), .is (.bool cb), .is (.bool true), .is (.bool true), .is (.bool true), .is (.slice none 0 0), .is (.string ⟨#[]⟩), .is (.slice none 0 0), .is (.string ⟨#[]⟩), .is (.bool true), .is (.bool true), .is (.bool true), .is (.bool false), .is (.bool false), .is (.bool true), .is (.bool true), .is (.bool true)] ?_
    simp only [List.toList_toArray]
    iterate 11 (
      refine sq_pure (by rfl) (fun W hb _ => ?_) ?_
      · obtain ⟨y1, y2, y3, y4⟩ := HX.out W hb
        go_simp
        all_goals first | done | omega
      simp only [Act.put, List.setIfInBounds_toArray, List.set_cons_zero, List.set_cons_succ])
    refine sq_call (f := 23) (args := #[.pointer (some ⟨p, 0, none⟩), .string s]) (by rfl) (fun W => by go_simp) (fun W hb _ => QC.out W (Below.next HB4.out hb)) ?_
    simp only [Act.put, List.setIfInBounds_toArray, List.set_cons_zero, List.set_cons_succ]
    iterate 2 (
      refine sq_pure (by rfl) (fun W hb _ => ?_) ?_
      · obtain ⟨y1, y2, y3, y4⟩ := HX.out W hb
        go_simp
        all_goals first | done | omega
      simp only [Act.put, List.setIfInBounds_toArray, List.set_cons_zero, List.set_cons_succ])
    refine sq_call (f := 32) (args := #[.agg #[.string q, .int .i64 (k : Int)], .string s]) (by rfl) (fun W => by go_simp) (fun W hb _ => QRC.out W) ?_
    simp only [Act.put, List.setIfInBounds_toArray, List.set_cons_zero, List.set_cons_succ]
    iterate 15 (
      refine sq_pure (by rfl) (fun W hb _ => ?_) ?_
      · obtain ⟨y1, y2, y3, y4⟩ := HX.out W hb
        go_simp
        all_goals first | done | omega
      simp only [Act.put, List.setIfInBounds_toArray, List.set_cons_zero, List.set_cons_succ])
    refine sq_end (fun w9 hb9 hK9 => ?_)
    have H9 := Lib.hid (Below.next HB4.out hb9)
    clear hK9 hb9
    go_wp2
    go_ret
    exact ⟨rfl, Below.next HB0.out.1 H9.out⟩
end Go.Proofs.Ythgdanbkngnckaa
namespace Go.Proofs.Ythgdanbkngnckaa
open Go.RowKit Go.Shelf Said

set_option maxRecDepth 100000 in
theorem refMay_any (q : ByteArray) (k : Int) (w : World) (hk : -1000 ≤ k ∧ k ≤ 1000) (hq : q.size ≤ 1000000) :
    Calls Try.prog 11 #[.string q, .int .i64 k] w fun e w' => e = .returned (.bool (mayB q k)) ∧ w = w' := by
  have hm : mayB q k = (decide (q.size ≤ 255) && (decide (0 ≤ k) && decide (k ≤ 3))) := by simp [mayB]
  rw [hm]
  clear hm
  by_cases h1 : q.size ≤ 255
  · have e1 : decide ((q.size : Int) ≤ 255) = true := by simp; omega
    have e2 : decide (q.size ≤ 255) = true := by simp; omega
    by_cases h2 : 0 ≤ k
    · have e3 : decide (k ≥ 0) = true := by simp; omega
      have e4 : decide (0 ≤ k) = true := by simp; omega
      by_cases h3 : k ≤ 3
      · have e5 : decide (k ≤ 3) = true := by simp; omega
        rw [e2, e4, e5]
        clear h1 h2 h3 hk hq
        go_enter Try.func11, Try.ntmps11
        go_wp2
        go_ret
        exact ⟨rfl, rfl⟩
      · have e5 : decide (k ≤ 3) = false := by simp; omega
        rw [e2, e4, e5]
        clear h1 h2 h3 hk hq
        go_enter Try.func11, Try.ntmps11
        go_wp2
        go_ret
        exact ⟨rfl, rfl⟩
    · have e3 : decide (k ≥ 0) = false := by simp; omega
      have e4 : decide (0 ≤ k) = false := by simp; omega
      rw [e2, e4]
      clear h1 h2 hk hq
      go_enter Try.func11, Try.ntmps11
      go_wp2
      go_ret
      exact ⟨by simp, rfl⟩
  · have e1 : decide ((q.size : Int) ≤ 255) = false := by simp; omega
    have e2 : decide (q.size ≤ 255) = false := by simp; omega
    rw [e2]
    clear h1 hk hq
    go_enter Try.func11, Try.ntmps11
    go_wp2
    go_ret
    exact ⟨by simp, rfl⟩

set_option maxRecDepth 100000 in
theorem refRead_x (q s : ByteArray) (k : Nat) (hk : k ≤ 3) (w : World) (hq : q.size ≤ 500) : Calls Try.prog 19 #[refA q k, .string s, .string ⟨#[120]⟩] w fun e w' => e = .returned (.string (StepS q k s 120)) ∧ Below w.heap.size w w' := by
  have QS := Lib.hid (fun W => refStep_any q s k hk 120 W hq)
  rw [show (((120 : UInt8).toNat : Nat) : Int) = 120 from rfl] at QS
  unfold refA at QS ⊢
  have HB0 : Hid (Below w.heap.size w (w.alloc (.cells #[.string q, .int .i64 (k : Int)] 31)) ∧ ∀ W, Below (w.alloc (.cells #[.string q, .int .i64 (k : Int)] 31)).heap.size (w.alloc (.cells #[.string q, .int .i64 (k : Int)] 31)) W → W.cell? ⟨w.heap.size, 0, none⟩ = some (.string q) ∧ W.cell? ⟨w.heap.size, 1, none⟩ = some (.int .i64 (k : Int))) := Lib.hid ⟨below_alloc w _, fun W hb => box_cells q k w hb⟩
  obtain ⟨A, hA⟩ : ∃ A, StepS q k s 120 = A := ⟨_, rfl⟩
  rw [hA] at QS ⊢
  obtain ⟨T, hT⟩ : ∃ T, (⟨#[120]⟩ : ByteArray) = T := ⟨_, rfl⟩
  rw [hT]
  have hT1 : T.size = 1 := by rw [← hT]; rfl
  have hT2 : ∀ h : 0 < T.size, (T[0]'h).toNat = 120 := fun h => by subst hT; rfl
  have il : (0 : Int) < (T.size : Int) := by omega
  have e1 : decide ((0 : Int) < (T.size : Int)) = true := decide_eq_true il
  have e2 : decide (0 < T.size) = true := decide_eq_true (by omega)
  have e3 : decide ((1 : Int) < (T.size : Int)) = false := decide_eq_false (by omega)
  have e4 : decide (1 < T.size) = false := decide_eq_false (by omega)
  clear hA hT
  go_enter Try.func19, Try.ntmps19
  obtain ⟨W0, hW0⟩ : ∃ W0, W0 = w.alloc (.cells #[.string q, .int .i64 (k : Int)] 31) := ⟨_, rfl⟩
  rw [← hW0] at HB0
  go_wp2
  rw [← hW0]
  clear hW0
  have HZ := Lib.hid (Below.refl W0.heap.size W0)
  go_loopw [1, 7] (fun s1 s7 wr => (s7 = .int .i64 0 ∧ s1 = .string s ∨ s7 = .int .i64 1 ∧ s1 = .string A) ∧ Hid (Below W0.heap.size W0 wr)) (fun _ s7 _ => 1 - (intOf s7).toNat)
  case atStart => exact ⟨.inl ⟨rfl, rfl⟩, HZ⟩
  case round =>
    obtain ⟨hcase, HB⟩ := hrel
    rcases hcase with ⟨rfl, rfl⟩ | ⟨rfl, rfl⟩
    · have HX : Hid (∀ W, Below wr.heap.size wr W → W.cell? ⟨w.heap.size, 0, none⟩ = some (.string q) ∧ W.cell? ⟨w.heap.size, 1, none⟩ = some (.int .i64 (k : Int))) := Lib.hid fun W hb => HB0.out.2 W (Below.next HB.out hb)
      go_upto_region 4 with fail
      refine Said.region_tail (by kernel_rfl) 6 (by kernel_rfl) (by kernel_rfl) (by kernel_rfl) [.is (.agg #[.string q, .int .i64 (k : Int)]), .is (.string s), .is (.string T), .is (.int .i64 0), .is (.int .u8 120), .is (.string A)] ?_
      simp only [List.toList_toArray, List.take_succ_cons, List.take_zero, List.drop_succ_cons, List.drop_zero]
      iterate 5 (
        refine sq_pure (by rfl) (fun W hb _ => ?_) ?_
        · obtain ⟨y1, y2⟩ := HX.out W hb
          go_simp
          all_goals first | done | omega
        simp only [Act.put, List.setIfInBounds_toArray, List.set_cons_zero, List.set_cons_succ])
      refine sq_call (f := 17) (args := #[.agg #[.string q, .int .i64 (k : Int)], .string s, .int .u8 120]) (by rfl) (fun W => by go_simp) (fun W hb _ => QS.out W) ?_
      simp only [Act.put, List.setIfInBounds_toArray, List.set_cons_zero, List.set_cons_succ]
      refine sq_end (fun W9 hb9 hK9 => ?_)
      have H9 := Lib.hid (Below.next HB.out hb9)
      clear hK9 hb9
      go_wp2
      go_roundw
      case rel => exact ⟨.inr ⟨rfl, rfl⟩, H9⟩
      case measure => simp [intOf]
    · go_wp2
      go_ret
      exact ⟨rfl, Below.next HB0.out.1 HB.out⟩

/-- The program's Read of one byte, from whatever it is. -/
theorem read_xs {q s : ByteArray} {p k : Nat} {v : Value} {w : World} (hA : AutoAt w p q k) (hk : k ≤ 3) (hq : q.size ≤ 300) (hz : s.size ≤ 1000) (hv : Strs w v [⟨#[120]⟩]) :
    Calls Try.prog 18 #[.pointer (some ⟨p, 0, none⟩), .string s, v] w fun e w' => e = .returned (.string (StepS q k s 120)) ∧ Below w.heap.size w w' := by
  by_cases his : isS q k s = true
  · have h := read_any hA hk (by omega) (isS_iff.1 his) hv (by simp) (by simp; decide)
    rw [show StepS q k s 120 = bin (readL q.data.toList k (nums s) (allB [⟨#[120]⟩])) by rw [StepS, if_pos his]; rfl]
    exact h
  · have h := read_not (v := v) hA hk (by omega) (fun h => his (isS_iff.2 h)) (by omega)
    rw [StepS, if_neg his]
    exact h
end Go.Proofs.Ythgdanbkngnckaa
namespace Go.Proofs.Ythgdanbkngnckaa
open Go.RowKit Go.Shelf Said

structure OddI (w : World) (g n : Nat) (l : List Nat) (W : World) : Prop where
  cells : ∀ i, i < n → W.cell? ⟨g, i, none⟩ = some (.int .u8 ((l.getD i 0 : Nat) : Int)) ∧ W.frozen? ⟨g, i, none⟩ = false
  len : l.length = n
  small : ∀ i, l.getD i 0 < 256
  bel : Below w.heap.size w W
  hg : w.heap.size ≤ g

theorem odd_conv (w : World) (s : ByteArray) : OddI w w.heap.size s.size (nums s) (Lib.bytesWorld w 5 s) := by
  refine ⟨fun i hi => ?_, nums_length s, nums_lt s, below_conv w s, Nat.le_refl _⟩
  have hc := Lib.bytesWorld_cell w 5 s i hi
  have hb := Lib.bytesWorld_at_new w 5 s
  constructor
  · rw [hc, nums_at s hi, byte_getD s i hi]
  · have hlt : i < (Lib.bytesCells w 5 s).size := by
      rcases Nat.lt_or_ge i (Lib.bytesCells w 5 s).size with h | h
      · exact h
      · simp [World.cell?, hb, Array.getElem?_eq_none h] at hc
    simp [World.frozen?, hb]
    omega

theorem OddI.store {w : World} {g n : Nat} {l : List Nat} {W : World} (h : OddI w g n l W) (i x : Nat) (hi : i < n) (hx : x < 256) : OddI w g n (l.set i x) (W.setCell ⟨g, i, none⟩ (.int .u8 (x : Int))) := by
  have hgr : W.grownBy (W.setCell ⟨g, i, none⟩ (.int .u8 (x : Int))) (some g) := ⟨rfl, rfl, rfl, by simp, fun k _ hn => by
    have hk : g ≠ k := fun e => hn (by rw [e])
    simp [World.setCell, Array.getElem?_modify, hk]⟩
  refine ⟨fun j hj => ?_, by rw [List.length_set]; exact h.len, fun j => ?_, h.bel.grown hgr h.bel.size (fun k e => by cases e; exact h.hg), h.hg⟩
  · constructor
    · by_cases e : i = j
      · subst e
        rw [World.cell?_setCell_same (h := (h.cells i hi).1)]
        simp [List.getD, h.len, hi]
      · rw [World.cell?_setCell_other (h := by intro e2; injection e2 with _ e3 _; exact e e3), (h.cells j hj).1]
        simp [List.getD, List.getElem?_set, e]
    · rw [World.frozen?_setCell]
      exact (h.cells j hj).2
  · by_cases e : i = j
    · subst e
      simp [List.getD, h.len, hi]
      exact hx
    · have := h.small j
      simp only [List.getD, List.getElem?_set, e, if_false] at this ⊢
      exact this

theorem OddI.str {w : World} {g n : Nat} {l : List Nat} {W W' : World} (h : OddI w g n l W) (hb : Below W.heap.size W W') (hn : 0 < n) (c : Nat) (T : TypeId) (hT : Try.prog.underlying T = some .string) : (convert 38 T (.slice (some ⟨g, 0, none⟩) n c)).run Try.prog W' = .ok (.string (bin l)) W' := by
  refine byts_str (l := l) ⟨_, c, by rw [h.len], fun i hi => ⟨g, 0, rfl, ?_⟩⟩ (by rw [h.len]; exact hn) h.small T hT
  rw [h.len] at hi
  have h1 := (h.cells i hi).1
  rw [Nat.zero_add, hb.cell (block_lt_of_cell h1)]
  exact h1
theorem OddI.below {w : World} {g n : Nat} {l : List Nat} {W W' : World} (h : OddI w g n l W) (hb : Below W.heap.size W W') : OddI w g n l W' := by
  refine ⟨fun i hi => ?_, h.len, h.small, Below.next h.bel hb, h.hg⟩
  have h1 := (h.cells i hi).1
  have hl : g < W.heap.size := block_lt_of_cell h1
  constructor
  · rw [hb.cell (block_lt_of_cell h1)]
    exact h1
  · rw [World.frozen?_of_block (a := ⟨g, i, none⟩) (hb.block g hl)]
    exact (h.cells i hi).2
end Go.Proofs.Ythgdanbkngnckaa
